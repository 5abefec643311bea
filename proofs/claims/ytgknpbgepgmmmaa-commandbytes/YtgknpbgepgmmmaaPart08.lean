/- What is read whole is what is written; what is written is read whole. Plain mathematics. EqInts and EqSnap of the document's. ReadSnap of bytes that are a snapshot's, and of others; what a drawn region may read. readReply. Replies: how they are read, what is read whole is what is written; ReadReply's two ways; Cut. -/
import Derived.Test.YtgknpbgepgmmmaaPart07
import Derived.BigQuiet
import Derived.Lib.Strings
import Derived.Laws.BitsAllLaws
namespace Go.Proofs.Ytgknpbgepgmmmaa.Cm
open Go.RowKit Bn Kp

theorem acc_pos (l : List UInt8) (h : l ≠ []) (h1 : at8 l (l.length - 1) ≠ 0) (h2 : at8 l (l.length - 1) < 128) : 0 < acc l := by
  induction l with
  | nil => exact absurd rfl h
  | cons b r ih =>
    have ea : acc (b :: r) = b.toNat % 128 + 128 * acc r := rfl
    cases r with
    | nil =>
      have e : at8 [b] ([b].length - 1) = (b.toNat : Int) := at8_cons_zero b []
      rw [e] at h1 h2
      omega
    | cons c r =>
      have e : (b :: c :: r).length - 1 = ((c :: r).length - 1) + 1 := by simp
      rw [e, at8_cons_succ] at h1 h2
      have := ih (by simp) h1 h2
      omega
/-- The bytes of the number that bytes make are these bytes. -/
theorem encF_acc_back (l : List UInt8) : ∀ (f : Nat), l ≠ [] → l.length ≤ f + 1 → (∀ j, j + 1 < l.length → 128 ≤ at8 l j) → at8 l (l.length - 1) < 128 → (1 < l.length → at8 l (l.length - 1) ≠ 0) → encF f (acc l) = l := by
  induction l with
  | nil => intro f h; exact absurd rfl h
  | cons b r ih =>
    intro f _ h h1 h2 h3
    have ea : acc (b :: r) = b.toNat % 128 + 128 * acc r := rfl
    have hlt := UInt8.toNat_lt b
    cases r with
    | nil =>
      have e : at8 [b] ([b].length - 1) = (b.toNat : Int) := at8_cons_zero b []
      rw [e] at h2
      have e0 : acc ([] : List UInt8) = 0 := rfl
      have e2 : acc [b] = b.toNat := by omega
      rw [e2, encF_last f b.toNat (by omega)]
      simp
    | cons c r =>
      have hb := h1 0 (by simp)
      rw [at8_cons_zero] at hb
      have e : (b :: c :: r).length - 1 = ((c :: r).length - 1) + 1 := by simp
      have h3' := h3 (by simp)
      rw [e, at8_cons_succ] at h2 h3'
      have hp := acc_pos (c :: r) (by simp) h3' h2
      cases f with
      | zero => simp at h
      | succ f =>
        have ih' := ih f (by simp) (by simp at h ⊢; omega) (fun j hj => by
          have := h1 (j + 1) (by simp at hj ⊢; omega)
          rwa [at8_cons_succ] at this) h2 (fun _ => h3')
        have e1 : acc (b :: c :: r) % 128 + 128 = b.toNat := by omega
        have e2 : acc (b :: c :: r) / 128 = acc (c :: r) := by omega
        rw [encF_more f _ (by omega), e1, e2, ih']
        simp

theorem zig_zag (u : Nat) : zig (zag u) = u := by
  unfold zig zag
  split <;> split <;> omega
theorem len7_more (bs : List UInt8) : ∀ (f k : Nat), len7 f bs = k + 1 → (∀ j, j < k → 128 ≤ at8 bs j) ∧ at8 bs k < 128 := by
  induction bs with
  | nil => intro f k h; cases f <;> simp [len7] at h
  | cons b r ih =>
    intro f k h
    cases f with
    | zero => simp [len7] at h
    | succ f =>
      have el : len7 (f + 1) (b :: r) = if 128 ≤ b.toNat then (if len7 f r = 0 then 0 else len7 f r + 1) else 1 := rfl
      rw [el] at h
      by_cases hb : 128 ≤ b.toNat
      · rw [if_pos hb] at h
        cases hr : len7 f r with
        | zero => rw [hr, if_pos rfl] at h; omega
        | succ m =>
          rw [hr, if_neg (by omega)] at h
          have hk : k = m + 1 := by omega
          subst hk
          obtain ⟨h1, h2⟩ := ih f m hr
          refine ⟨fun j hj => ?_, by rw [at8_cons_succ]; exact h2⟩
          cases j with
          | zero => rw [at8_cons_zero]; omega
          | succ j => rw [at8_cons_succ]; exact h1 j (by omega)
      · rw [if_neg hb] at h
        have hk : k = 0 := by omega
        subst hk
        exact ⟨fun j hj => by omega, by rw [at8_cons_zero]; omega⟩
theorem at8_take (bs : List UInt8) (k j : Nat) (h : j < k) : at8 (bs.take k) j = at8 bs j := by
  unfold at8
  simp [List.getD, h]
/-- What is read as a number is what the number is written as. -/
theorem num_back (bs : List UInt8) (u k : Nat) (h : num bs = some (u, k)) : bs = enc (zag u) ++ bs.drop k := by
  have hb : ¬ bad bs := fun hb => by rw [num_bad hb] at h; cases h
  rw [num_ok hb] at h
  simp only [Option.some.injEq, Prod.mk.injEq] at h
  obtain ⟨rfl, rfl⟩ := h
  obtain ⟨h10, hle⟩ := len7_le 10 bs
  have h0 : len7 10 bs ≠ 0 := fun h => hb (Or.inl h)
  obtain ⟨k, hk⟩ : ∃ k, len7 10 bs = k + 1 := ⟨len7 10 bs - 1, by omega⟩
  obtain ⟨g1, g2⟩ := len7_more bs 10 k hk
  have hz : ¬ (1 < len7 10 bs ∧ at8 bs (len7 10 bs - 1) = 0) := fun h => hb (Or.inr (Or.inl h))
  rw [hk] at hz h10 hle ⊢
  have hlen : (bs.take (k + 1)).length = k + 1 := by simp; omega
  have e : encF 9 (acc (bs.take (k + 1))) = bs.take (k + 1) := by
    refine encF_acc_back _ 9 (fun e => by rw [e] at hlen; simp at hlen) (by omega) (fun j hj => ?_) ?_ (fun hj => ?_)
    · rw [hlen] at hj
      rw [at8_take _ _ _ (by omega)]
      exact g1 j (by omega)
    · rw [hlen, at8_take _ _ _ (by omega)]
      exact g2
    · rw [hlen] at hj ⊢
      rw [at8_take _ _ _ (by omega)]
      exact fun h => hz ⟨by omega, h⟩
  rw [enc, zig_zag, e, List.take_append_drop]
theorem rNum_back (bs r : List UInt8) (n : Int) (h : rNum (some bs) = (n, some r)) : bs = enc n ++ r := by
  cases hn : num bs with
  | none => simp [rNum, hn] at h
  | some uk =>
    obtain ⟨u, k⟩ := uk
    simp only [rNum, hn, Prod.mk.injEq, Option.some.injEq] at h
    obtain ⟨rfl, rfl⟩ := h
    exact num_back bs u k hn
theorem rNum_none {st : R} {n : Int} {r : List UInt8} (h : rNum st = (n, some r)) : ∃ bs, st = some bs ∧ bs = enc n ++ r := by
  cases st with
  | none => simp [rNum] at h
  | some bs => exact ⟨bs, rfl, rNum_back bs r n h⟩
theorem rText_back {st : R} {t r : List UInt8} (h : rText st = (t, some r)) : ∃ bs, st = some bs ∧ bs = encT t ++ r := by
  unfold rText at h
  cases hn : (rNum st).2 with
  | none => rw [hn] at h; simp at h
  | some bs =>
    rw [hn] at h
    obtain ⟨b0, rfl, hb⟩ := rNum_none (show rNum st = ((rNum st).1, some bs) by rw [← hn])
    refine ⟨b0, rfl, ?_⟩
    simp only [rCut] at h
    split at h
    · rename_i hc
      simp only [Prod.mk.injEq, Option.some.injEq] at h
      obtain ⟨rfl, rfl⟩ := h
      have hl : (bs.take (rNum (some b0)).1.toNat).length = (rNum (some b0)).1.toNat := by rw [List.length_take]; omega
      rw [encT, hl, List.append_assoc, List.take_append_drop, Int.toNat_of_nonneg hc.1]
      exact hb
    · simp at h
theorem rdL_back {α : Type} (one : R → α × R) (f : α → List UInt8) (ho : ∀ {st : R} {x : α} {r : List UInt8}, one st = (x, some r) → ∃ bs, st = some bs ∧ bs = f x ++ r) : ∀ (n : Nat) (st : R) (xs : List α) (r : List UInt8), rdL one false n st = (xs, some r) → (∃ bs, st = some bs ∧ bs = xs.flatMap f ++ r) ∧ xs.length = n
  | 0, st, xs, r, h => by
    have h' : (([] : List α), st) = (xs, some r) := h
    simp only [Prod.mk.injEq] at h'
    obtain ⟨rfl, rfl⟩ := h'
    exact ⟨⟨r, rfl, rfl⟩, rfl⟩
  | n + 1, none, xs, r, h => by
    have h' : (([] : List α), (none : R)) = (xs, some r) := h
    simp at h'
  | n + 1, some l, xs, r, h => by
    have h' : ((one (some l)).1 :: (rdL one false n (one (some l)).2).1, (rdL one false n (one (some l)).2).2) = (xs, some r) := h
    simp only [Prod.mk.injEq] at h'
    obtain ⟨rfl, h2⟩ := h'
    obtain ⟨⟨b1, e1, e2⟩, e3⟩ := rdL_back one f ho n (one (some l)).2 (rdL one false n (one (some l)).2).1 r (by rw [← h2])
    obtain ⟨b2, e4, e5⟩ := ho (show one (some l) = ((one (some l)).1, some b1) by rw [← e1])
    refine ⟨⟨l, rfl, ?_⟩, by simp [e3]⟩
    simp only [Option.some.injEq] at e4
    refine e4.trans (e5.trans ?_)
    rw [List.flatMap_cons, List.append_assoc, ← e2]
theorem rdL_true {α : Type} (one : R → α × R) (n : Nat) (st : R) : rdL one true n st = ([], st) := rdL_off one true n st (by cases st <;> rfl)
theorem cntOk_iff (n most : Int) : cntOk n most = true ↔ 0 ≤ n ∧ n ≤ most := by simp [cntOk]
theorem rdLs_back {α : Type} (one : R → α × R) (f : α → List UInt8) (ho : ∀ {st : R} {x : α} {r : List UInt8}, one st = (x, some r) → ∃ bs, st = some bs ∧ bs = f x ++ r) (most : Int) (st : R) (xs : List α) (r : List UInt8) (h : rdLs one most st false = ((xs, some r), false)) :
    ∃ bs, st = some bs ∧ bs = enc xs.length ++ (xs.flatMap f ++ r) := by
  simp only [rdLs, Bool.false_or, Prod.mk.injEq] at h
  obtain ⟨h1, h2⟩ := h
  rw [h2] at h1
  obtain ⟨⟨b1, e1, e2⟩, e3⟩ := rdL_back one f ho _ _ _ _ h1
  obtain ⟨b0, rfl, e4⟩ := rNum_none (show rNum st = ((rNum st).1, some b1) by rw [← e1])
  have h3 := (cntOk_iff _ _).1 (by simpa using h2)
  refine ⟨b0, rfl, ?_⟩
  rw [e3, Int.toNat_of_nonneg h3.1, ← e2]
  exact e4
theorem rdLs_wrong {α : Type} {one : R → α × R} {most : Int} {st st' : R} {xs : List α} {wr : Bool} (h : rdLs one most st wr = ((xs, st'), false)) : wr = false := by
  simp only [rdLs, Prod.mk.injEq] at h
  cases wr
  · rfl
  · simp at h

theorem rdL_enc {α : Type} (one : R → α × R) (f : α → List UInt8) (xs : List α) (ho : ∀ x ∈ xs, ∀ r, one (some (f x ++ r)) = (x, some r)) (r : List UInt8) : rdL one false xs.length (some (xs.flatMap f ++ r)) = (xs, some r) := by
  induction xs with
  | nil => rfl
  | cons x xs ih =>
    have e : (x :: xs).flatMap f ++ r = f x ++ (xs.flatMap f ++ r) := by simp
    have h1 := ho x (by simp) (xs.flatMap f ++ r)
    have h2 := ih (fun y hy => ho y (by simp [hy]))
    rw [e]
    show ((one (some (f x ++ (xs.flatMap f ++ r)))).1 :: (rdL one false xs.length (one (some (f x ++ (xs.flatMap f ++ r)))).2).1, (rdL one false xs.length (one (some (f x ++ (xs.flatMap f ++ r)))).2).2) = _
    rw [h1, h2]
theorem rdLs_enc {α : Type} (one : R → α × R) (f : α → List UInt8) (xs : List α) (ho : ∀ x ∈ xs, ∀ r, one (some (f x ++ r)) = (x, some r)) (most : Int) (hm : (xs.length : Int) ≤ most) (hi : (xs.length : Int) ≤ 9223372036854775807) (r : List UInt8) :
    rdLs one most (some (enc xs.length ++ (xs.flatMap f ++ r))) false = ((xs, some r), false) := by
  have h1 := rNum_i (xs.length : Int) (xs.flatMap f ++ r) ⟨by omega, hi⟩
  have h2 : cntOk (xs.length : Int) most = true := (cntOk_iff _ _).2 ⟨by omega, hm⟩
  simp only [rdLs, h1, h2, Bool.not_true, Bool.or_false, Int.toNat_natCast, rdL_enc one f xs ho]

/-- A snapshot's bytes. -/
def encS' (s : Snp) : List UInt8 := enc s.idx ++ (enc s.term ++ (enc s.conf.length ++ (s.conf.flatMap enc ++ encT s.data)))
theorem rSnp_enc (s : Snp) (h : s.ok) : rSnp (some (encS' s)) = ((s, some []), false) := by
  obtain ⟨h1, h2, h3, h4, h5⟩ := h
  have e := rdLs_enc rNum enc s.conf (fun x hx r => rNum_i x r (h3 x hx)) 9223372036854775807 (by omega) (by omega) (encT s.data)
  have e2 := rText_t s.data [] h5
  rw [List.append_nil] at e2
  simp only [rSnp, encS', rNum_i _ _ h1, rNum_i _ _ h2, e, e2]
theorem okB_iff (st : R) (wr : Bool) : okB st wr = true ↔ st = some [] ∧ wr = false := by
  cases st with
  | none => simp [okB]
  | some l => cases wr <;> cases l <;> simp [okB]
theorem rSnp_back (bs : List UInt8) (h : okB (rSnp (some bs)).1.2 (rSnp (some bs)).2 = true) : encS' (rSnp (some bs)).1.1 = bs := by
  obtain ⟨h1, h2⟩ := (okB_iff _ _).1 h
  obtain ⟨n1, st1, e1⟩ : ∃ n s, rNum (some bs) = (n, s) := ⟨_, _, rfl⟩
  obtain ⟨n2, st2, e2⟩ : ∃ n s, rNum st1 = (n, s) := ⟨_, _, rfl⟩
  obtain ⟨ns, st3, wr, e3⟩ : ∃ ns s x, rdLs rNum 9223372036854775807 st2 false = ((ns, s), x) := ⟨_, _, _, rfl⟩
  obtain ⟨t, st4, e4⟩ : ∃ t s, rText st3 = (t, s) := ⟨_, _, rfl⟩
  have HE : rSnp (some bs) = ((⟨n1, n2, ns, t⟩, st4), wr) := by simp only [rSnp, e1, e2, e3, e4]
  rw [HE] at h1 h2 ⊢
  dsimp only at h1 h2 ⊢
  subst h1 h2
  obtain ⟨b3, rfl, f3⟩ := rText_back e4
  obtain ⟨b2, rfl, f2⟩ := rdLs_back rNum enc (fun h => rNum_none h) _ _ _ _ e3
  obtain ⟨b1, rfl, f1⟩ := rNum_none e2
  have f0 := rNum_back _ _ _ e1
  rw [encS', f0, f1, f2, f3]
  simp

end Go.Proofs.Ytgknpbgepgmmmaa.Cm
namespace Go.Proofs.Ytgknpbgepgmmmaa.Cm
open Go.RowKit Bn Kp

theorem cI_len (ns : List Int) : (cI ns).length = ns.length := by simp [cI]
theorem below_drewN (w : World) (n : Nat) : Below w.heap.size w (w.drewN n) := ⟨rfl, rfl, rfl, Nat.le_refl _, fun _ _ => rfl⟩

set_option maxHeartbeats 1000000 in
theorem eqInts_any (va vb : Value) (xs ys : List Int) (w : World) (ha : IsR w va (cI xs)) (hb : IsR w vb (cI ys)) :
    Calls Try.prog 58 #[va, vb] w fun e w' => e = .returned (.bool (decide (xs = ys))) ∧ ∃ m, w' = w.drewN m := by
  obtain ⟨ao, cap, rfl, a1, a2, a4⟩ := ha
  obtain ⟨bo, bap, rfl, b1, b2, b4⟩ := hb
  rw [cI_len] at a1 a4 b1 b4 ⊢
  rw [cI_len]
  have a2' : cap ≤ 9223372036854775807 := a2
  have b2' : bap ≤ 9223372036854775807 := b2
  have A4 := hide a4
  have B4 := hide b4
  obtain ⟨N, hN⟩ : ∃ N, Hid (xs.length = N) := ⟨_, (rfl : _ = _)⟩
  obtain ⟨M, hM⟩ : ∃ M, Hid (ys.length = M) := ⟨_, (rfl : _ = _)⟩
  rw [hN.out] at a1 A4 ⊢
  rw [hM.out] at b1 B4 ⊢
  clear a4 b4 a2 b2
  obtain ⟨res, hres⟩ : ∃ r, Hid (decide (xs = ys) = r) := ⟨_, (rfl : _ = _)⟩
  rw [hres.out]
  by_cases h : N = M
  · subst h
    have hne : (((N : Int) != N)) = false := by simp
    go_enter Try.func58, Try.ntmps58
    go_wp2_with fail
    go_loopw [5] (fun i wr => ∃ k m : Nat, k ≤ N ∧ i = .int .i64 k ∧ Hid (xs.take k = ys.take k) ∧ wr = w.drewN m) (fun i _ => N - (intOf i).toNat)
    case atStart => exact ⟨0, 0, Nat.zero_le _, rfl, (rfl : _ = _), rfl⟩
    case round =>
      obtain ⟨k, m, hk, rfl, HT, rfl⟩ := hrel
      by_cases hx : k < N
      · obtain ⟨ga, oa, rfl, hca⟩ := A4.out (by omega)
        obtain ⟨gb, ob, rfl, hcb⟩ := B4.out (by omega)
        obtain ⟨x, hx1⟩ : ∃ e, xs[k]? = some e := ⟨_, List.getElem?_eq_getElem (by rw [hN.out]; exact hx)⟩
        obtain ⟨y, hy1⟩ : ∃ e, ys[k]? = some e := ⟨_, List.getElem?_eq_getElem (by rw [hM.out]; exact hx)⟩
        have ca := hca k _ (cI_at xs k x hx1)
        have cb := hcb k _ (cI_at ys k y hy1)
        have HX := hide hx1
        have HY := hide hy1
        clear hca hcb hx1 hy1
        by_cases hxy : x = y
        · have hxy' : (x != y) = false := by simp [hxy]
          have HXY := hide hxy
          clear hxy
          go_upto_region 6 with fail
          go_big_quiet (fail)
          go_wp2_with fail
          go_roundw
          case rel =>
            refine ⟨k + 1, _, by omega, rfl, ?_, rfl⟩
            show xs.take (k + 1) = ys.take (k + 1)
            rw [List.take_add_one, List.take_add_one, HX.out, HY.out, HT.out, HXY.out]
          case measure => simp [intOf]; omega
        · have hxy' : (x != y) = true := by simp [hxy]
          have HXY := hide hxy
          clear hxy
          go_upto_region 6 with fail
          go_big_quiet (fail)
          go_wp2_with fail
          go_ret
          refine ⟨?_, _, World.drewN_drewN _ _ _⟩
          have e : decide (xs = ys) = false := by
            rw [decide_eq_false_iff_not]
            intro e
            subst e
            have := HX.out.symm.trans HY.out
            simp at this
            exact HXY.out this
          have e2 : res = false := by rw [← hres.out, e]
          subst e2
          rfl
      · have hlt' : ¬ (k : Int) < (N : Int) := by omega
        go_wp2_with fail
        go_ret
        refine ⟨?_, _, rfl⟩
        have h1 := HT.out
        rw [List.take_of_length_le (by rw [hN.out]; omega), List.take_of_length_le (by rw [hM.out]; omega)] at h1
        have e2 : res = true := by rw [← hres.out]; exact decide_eq_true h1
        subst e2
        rfl
  · have hne : (((N : Int) != M)) = true := by simp; omega
    have e : res = false := by
      rw [← hres.out, decide_eq_false_iff_not]
      intro e
      subst e
      exact h (hN.out.symm.trans hM.out)
    subst e
    clear h
    go_enter Try.func58, Try.ntmps58
    go_wp2_with fail
    go_ret
    exact ⟨rfl, 0, rfl⟩

/-- A snapshot as it is read. -/
structure SnV (w : World) (ac : Option Addr) (lc cc : Nat) (ad : Option Addr) (ld cd : Nat) (s : Snp) : Prop where
  conf : IsR w (.slice ac lc cc) (cI s.conf)
  data : Sl w (.slice ad ld cd) s.data
theorem SnV.below {w w' : World} {ac ad : Option Addr} {lc cc ld cd : Nat} {s : Snp} (h : SnV w ac lc cc ad ld cd s) (hb : Below w.heap.size w w') : SnV w' ac lc cc ad ld cd s := ⟨h.conf.below hb, h.data.below hb⟩
theorem snp_eta (s t : Snp) : s = t ↔ s.idx = t.idx ∧ s.term = t.term ∧ s.conf = t.conf ∧ s.data = t.data := by
  cases s; cases t; simp
def eqS (s t : Snp) : Bool := decide (s.idx = t.idx ∧ s.term = t.term ∧ s.conf = t.conf ∧ s.data = t.data)
theorem eqS_iff (s t : Snp) : eqS s t = true ↔ s = t := by rw [eqS, decide_eq_true_iff, snp_eta]
theorem beq_tx (x y : List UInt8) : ((⟨x.toArray⟩ : ByteArray).toList == (⟨y.toArray⟩ : ByteArray).toList) = decide (x = y) := by
  rw [Bool.eq_iff_iff]
  simp [Lib.toList_data]

set_option maxRecDepth 4000 in
set_option maxHeartbeats 2000000 in
theorem eqSnap_any {w : World} (s t : Snp) {ac ad bc bd : Option Addr} {lc cc ld cd mc dc md dd : Nat} (hs : SnV w ac lc cc ad ld cd s) (ht : SnV w bc mc dc bd md dd t) :
    Calls Try.prog 28 #[.agg #[.int .i64 s.idx, .int .i64 s.term, .slice ac lc cc, .slice ad ld cd], .agg #[.int .i64 t.idx, .int .i64 t.term, .slice bc mc dc, .slice bd md dd]] w fun e w' => e = .returned (.bool (eqS s t)) ∧ Hid (Below w.heap.size w w') := by
  obtain ⟨W, hW⟩ : ∃ W, Hid (W = (w.alloc (.cells #[.int .i64 s.idx, .int .i64 s.term, .slice ac lc cc, .slice ad ld cd] 62)).alloc (.cells #[.int .i64 t.idx, .int .i64 t.term, .slice bc mc dc, .slice bd md dd] 62)) := ⟨_, (rfl : _ = _)⟩
  have HB : Hid (Below w.heap.size w W) := by rw [hW.out]; exact ((Below.refl _ w).alloc (Nat.le_refl _) _).alloc (by simp) _
  have h1 : W.heap[w.heap.size]? = some (.cells #[.int .i64 s.idx, .int .i64 s.term, .slice ac lc cc, .slice ad ld cd] 62 (0, 0)) := by
    rw [hW.out]
    exact (((Below.refl _ _).alloc (Nat.le_refl _) _).block w.heap.size (by simp)).trans (heap_alloc_new _ _)
  have h2 : W.heap[w.heap.size + 1]? = some (.cells #[.int .i64 t.idx, .int .i64 t.term, .slice bc mc dc, .slice bd md dd] 62 (0, 0)) := by rw [hW.out]; exact heap_alloc2_new _ _ _
  have hs' := hs.below HB.out
  have ht' := ht.below HB.out
  obtain ⟨x0, x1, x2, x3⟩ := cells_Snp h1
  obtain ⟨y0, y1, y2, y3⟩ := cells_Snp h2
  have HE := hide (eqInts_any _ _ _ _ W hs'.conf ht'.conf)
  have hca : ∀ m, (convert 24 9 (.slice ad ld cd)).run Try.prog (W.drewN m) = .ok (.string ⟨s.data.toArray⟩) (W.drewN m) := fun m => str_of_sl (P := Try.prog) (hs'.data.below (below_drewN W m)) 24 5 9 Try.underlying24 Try.underlying5 Try.underlying9
  have hcb : ∀ m, (convert 24 9 (.slice bd md dd)).run Try.prog (W.drewN m) = .ok (.string ⟨t.data.toArray⟩) (W.drewN m) := fun m => str_of_sl (P := Try.prog) (ht'.data.below (below_drewN W m)) 24 5 9 Try.underlying24 Try.underlying5 Try.underlying9
  obtain ⟨res, hres⟩ : ∃ r, Hid (eqS s t = r) := ⟨_, (rfl : _ = _)⟩
  rw [hres.out]
  have hf : ∀ {p : Prop}, ¬ p → (s = t → p) → res = false := fun {p} hn hp => by
    rw [← hres.out, Bool.eq_false_iff]
    exact fun e => hn (hp ((eqS_iff s t).1 e))
  clear h1 h2 hs' ht' hs ht
  by_cases c1 : s.idx = t.idx
  · have g1 : (s.idx == t.idx) = true := by rw [beq_iff_eq]; exact c1
    by_cases c2 : s.term = t.term
    · have g2 : (s.term == t.term) = true := by rw [beq_iff_eq]; exact c2
      by_cases c3 : s.conf = t.conf
      · rw [decide_eq_true c3] at HE
        have hr : Hid (decide (s.data = t.data) = res) := by
          show _ = _
          rw [← hres.out, eqS]
          rw [Bool.eq_iff_iff, decide_eq_true_iff, decide_eq_true_iff]
          exact ⟨fun h => ⟨c1, c2, c3, h⟩, fun h => h.2.2.2⟩
        have hbt := beq_tx s.data t.data
        rw [hr.out] at hbt
        obtain ⟨xa, hxa⟩ : ∃ x : ByteArray, Hid (⟨s.data.toArray⟩ = x) := ⟨_, (rfl : _ = _)⟩
        obtain ⟨xb, hxb⟩ : ∃ x : ByteArray, Hid (⟨t.data.toArray⟩ = x) := ⟨_, (rfl : _ = _)⟩
        rw [hxa.out] at hca hbt
        rw [hxb.out] at hcb hbt
        clear c1 c2 c3 hf
        go_enter Try.func28, Try.ntmps28
        go_upto_region 1 with fail
        rw [← hW.out]
        go_wp2_with fail
        refine Calls.mono HE.out ?_
        rintro e w1 ⟨rfl, m, hm⟩
        subst hm
        have k2 : (W.drewN m).cell? ⟨w.heap.size, 3, none⟩ = some (.slice ad ld cd) := x3
        have k3 : (W.drewN m).cell? ⟨w.heap.size + 1, 3, none⟩ = some (.slice bd md dd) := y3
        have ka := hca m
        have kb := hcb m
        clear hca hcb
        go_wp2_with fail
        go_ret
        exact ⟨rfl, HB.out.trans ((below_drewN W m).mono HB.out.size)⟩
      · have e := hf c3 (fun h => by rw [h])
        subst e
        rw [decide_eq_false c3] at HE
        clear c1 c2 c3 hf
        go_enter Try.func28, Try.ntmps28
        go_upto_region 1 with fail
        rw [← hW.out]
        go_wp2_with fail
        refine Calls.mono HE.out ?_
        rintro e w1 ⟨rfl, m, hm⟩
        subst hm
        go_wp2_with fail
        go_ret
        exact ⟨rfl, HB.out.trans ((below_drewN W m).mono HB.out.size)⟩
    · have e := hf c2 (fun h => by rw [h])
      subst e
      have g2 : (s.term == t.term) = false := by rw [beq_eq_false_iff_ne]; exact c2
      clear c1 c2 hf
      go_enter Try.func28, Try.ntmps28
      go_upto_region 1 with fail
      rw [← hW.out]
      go_wp2_with fail
      go_ret
      exact ⟨rfl, HB.out⟩
  · have e := hf c1 (fun h => by rw [h])
    subst e
    have g1 : (s.idx == t.idx) = false := by rw [beq_eq_false_iff_ne]; exact c1
    clear c1 hf
    go_enter Try.func28, Try.ntmps28
    go_upto_region 1 with fail
    rw [← hW.out]
    go_wp2_with fail
    go_ret
    exact ⟨rfl, HB.out⟩

end Go.Proofs.Ytgknpbgepgmmmaa.Cm
namespace Go.Proofs.Ytgknpbgepgmmmaa.Cm
open Go.RowKit Bn Kp

theorem snV_of {w w' : World} {uc ud : Value} {s : Snp} (h : SnpR w w' uc ud s) : ∃ ac lc cc ad ld cd, uc = .slice ac lc cc ∧ ud = .slice ad ld cd ∧ SnV w' ac lc cc ad ld cd s := by
  obtain ⟨_, h2, h3⟩ := h
  obtain ⟨ac, lc, cc, rfl⟩ := Kp.own_slice h2
  obtain ⟨ad, ld, cd, rfl⟩ := Kp.own_slice h3
  exact ⟨ac, lc, cc, ad, ld, cd, rfl, rfl, IsR.of_own h2, Sl.of_own h3⟩
theorem readSnap_yes {w : World} {v : Value} {bs : List UInt8} (hS : Sl w v bs) (hl : bs.length ≤ 900000) {s : Snp} (h : rSnp (some bs) = ((s, some []), false)) :
    Calls Try.prog 27 #[v] w fun e w' => ∃ ac lc cc ad ld cd, e = .returned (.tuple #[.agg #[.int .i64 s.idx, .int .i64 s.term, .slice ac lc cc, .slice ad ld cd], .int .i64 0]) ∧ Hid (SnV w' ac lc cc ad ld cd s ∧ Below w.heap.size w w') := by
  have H := readSnapC_any hS hl
  rw [h] at H
  refine H.mono ?_
  rintro e w' ⟨uc, ud, he, hp⟩
  obtain ⟨ac, lc, cc, ad, ld, cd, rfl, rfl, hv⟩ := snV_of hp.out
  rw [okC_t (by rfl), okN_t (by rfl)] at he
  exact ⟨ac, lc, cc, ad, ld, cd, he, hv, hp.out.1⟩
theorem readSnap_ok {w : World} {v : Value} {bs : List UInt8} (hS : Sl w v bs) (hl : bs.length ≤ 900000) (h : okB (rSnp (some bs)).1.2 (rSnp (some bs)).2 = true) :
    Calls Try.prog 27 #[v] w fun e w' => ∃ ac lc cc ad ld cd, e = .returned (.tuple #[.agg #[.int .i64 (rSnp (some bs)).1.1.idx, .int .i64 (rSnp (some bs)).1.1.term, .slice ac lc cc, .slice ad ld cd], .int .i64 0]) ∧ Hid (SnV w' ac lc cc ad ld cd (rSnp (some bs)).1.1 ∧ Below w.heap.size w w') := by
  refine (readSnapC_any hS hl).mono ?_
  rintro e w' ⟨uc, ud, he, hp⟩
  obtain ⟨ac, lc, cc, ad, ld, cd, rfl, rfl, hv⟩ := snV_of hp.out
  rw [okC_t h, okN_t h] at he
  exact ⟨ac, lc, cc, ad, ld, cd, he, hv, hp.out.1⟩
theorem readSnap_no {w : World} {v : Value} {bs : List UInt8} (hS : Sl w v bs) (hl : bs.length ≤ 900000) (h : okB (rSnp (some bs)).1.2 (rSnp (some bs)).2 = false) :
    Calls Try.prog 27 #[v] w fun e w' => e = .returned (.tuple #[.agg #[.int .i64 0, .int .i64 0, .slice none 0 0, .slice none 0 0], .int .i64 3]) ∧ Hid (Below w.heap.size w w') := by
  refine (readSnapC_any hS hl).mono ?_
  rintro e w' ⟨uc, ud, he, hp⟩
  rw [okC_f h, okN_f h] at he
  exact ⟨he, hp.out.1⟩
/-- A snapshot's values. -/
theorem snap_enc {W : World} (s : Snp) {ac ad : Option Addr} {lc cc ld cd : Nat} (h : SnV W ac lc cc ad ld cd s) (ho : s.ok) (hl : s.conf.length ≤ 10000000000) (hl2 : s.data.length ≤ 10000000000) :
    Calls Try.prog 26 #[.agg #[.int .i64 s.idx, .int .i64 s.term, .slice ac lc cc, .slice ad ld cd]] W fun e w' => ∃ ao L cap, e = .returned (.slice ao L cap) ∧ Hid (Own8 W w' (.slice ao L cap) (encS' s)) :=
  snap_any s ac ad lc cc ld cd h.conf h.data ho hl hl2
theorem rNum_ok (st : R) : I64 (rNum st).1 := rNum_bds st
theorem rdL_ok (wr : Bool) : ∀ (n : Nat) (st : R), ∀ x ∈ (rdL rNum wr n st).1, I64 x
  | 0, st, x, h => by simp [rdL] at h
  | n + 1, none, x, h => by simp [rdL] at h
  | n + 1, some l, x, h => by
    cases wr
    · have h' : x ∈ (rNum (some l)).1 :: (rdL rNum false n (rNum (some l)).2).1 := h
      rcases List.mem_cons.1 h' with rfl | h2
      · exact rNum_ok _
      · exact rdL_ok false n _ x h2
    · rw [rdL_true] at h
      simp at h
theorem rSnp_ok (bs : List UInt8) (hl : bs.length ≤ 900000) (h : okB (rSnp (some bs)).1.2 (rSnp (some bs)).2 = true) : (rSnp (some bs)).1.1.ok ∧ (rSnp (some bs)).1.1.conf.length ≤ 900000 ∧ (rSnp (some bs)).1.1.data.length ≤ 900000 := by
  have hb := rSnp_back bs h
  have hlen := congrArg List.length hb
  simp only [encS', encT, List.length_append] at hlen
  have h1 : ∀ ns : List Int, ns.length ≤ (ns.flatMap enc).length := fun ns => by
    induction ns with
    | nil => simp
    | cons a l ih => have := enc_pos a; simp only [List.flatMap_cons, List.length_append, List.length_cons]; omega
  have h2 := h1 (rSnp (some bs)).1.1.conf
  refine ⟨⟨rNum_ok _, rNum_ok _, rdL_ok _ _ _, by omega, by omega⟩, by omega, by omega⟩

theorem encS_len (s : Snp) : (encS' s).length ≤ 40 + 10 * s.conf.length + s.data.length := by
  have h1 := enc_le s.idx
  have h2 := enc_le s.term
  have h3 := enc_le s.conf.length
  have h4 := enc_le s.data.length
  have h5 := enc_len_le s.conf
  simp only [encS', encT, List.length_append]
  omega
theorem encS_pos (s : Snp) : 0 < (encS' s).length := by
  have h1 := enc_pos s.idx
  simp only [encS', List.length_append]
  omega
theorem encS_inj (s t : Snp) (hs : s.ok) (ht : t.ok) : decide (encS' s = encS' t) = eqS s t := by
  rw [Bool.eq_iff_iff, decide_eq_true_iff, eqS_iff]
  refine ⟨fun h => ?_, fun h => by rw [h]⟩
  have h1 := rSnp_enc s hs
  rw [h, rSnp_enc t ht] at h1
  simp only [Prod.mk.injEq] at h1
  exact h1.1.1.symm
/-- What three blocks and two texts read as. -/
abbrev S11 (P Q R : Nat) (c0 c1 c2 c3 e0 e1 e2 e3 g0 g1 g2 g3 va vb : Value) (Xa Xb : ByteArray) (u : World) : Prop :=
  u.cell? ⟨P, 0, none⟩ = some c0 ∧ u.cell? ⟨P, 1, none⟩ = some c1 ∧ u.cell? ⟨P, 2, none⟩ = some c2 ∧ u.cell? ⟨P, 3, none⟩ = some c3 ∧
  u.cell? ⟨Q, 0, none⟩ = some e0 ∧ u.cell? ⟨Q, 1, none⟩ = some e1 ∧ u.cell? ⟨Q, 2, none⟩ = some e2 ∧ u.cell? ⟨Q, 3, none⟩ = some e3 ∧
  u.cell? ⟨R, 0, none⟩ = some g0 ∧ u.cell? ⟨R, 1, none⟩ = some g1 ∧ u.cell? ⟨R, 2, none⟩ = some g2 ∧ u.cell? ⟨R, 3, none⟩ = some g3 ∧
  (convert 24 9 va).run Try.prog u = .ok (.string Xa) u ∧ (convert 24 9 vb).run Try.prog u = .ok (.string Xb) u
theorem conv_sl_any {w : World} {v : Value} {t : List UInt8} {T : ByteArray} (h : Sl w v t) (hT : (⟨t.toArray⟩ : ByteArray) = T) : (convert 24 9 v).run Try.prog w = .ok (.string T) w := by
  have := str_of_sl (P := Try.prog) h 24 5 9 Try.underlying24 Try.underlying5 Try.underlying9
  rw [hT] at this
  exact this

theorem xor8 (bs : List UInt8) (k : Nat) (x : Int) (hx : 0 ≤ x ∧ x ≤ 255) : ∃ y : UInt8, bits .xor .u8 (at8 bs k) x = (y.toNat : Int) := by
  have hb := at8_bd bs k
  have h := u8_xor (at8 bs k) x hb.1 (by omega) hx.1 (by omega)
  have hlt : (at8 bs k).toNat ^^^ x.toNat < 256 := Nat.xor_lt_two_pow (n := 8) (by omega) (by omega)
  exact ⟨UInt8.ofNat ((at8 bs k).toNat ^^^ x.toNat), by rw [h, toNat_lo hlt]⟩
/-- One byte of a row of one's own is written. -/
theorem own_put {w : World} {b n i : Nat} {g : Nat} {cap : Nat} {xs : List UInt8} (h : w.ownsRow b 5 1 (.slice (some ⟨g, 0, none⟩) n cap) xs.length (cells8 xs)) (hi : i < xs.length) (y : UInt8) :
    (w.setCell ⟨g, i, none⟩ (.int .u8 (y.toNat : Int))).ownsRow b 5 1 (.slice (some ⟨g, 0, none⟩) n cap) (xs.set i y).length (cells8 (xs.set i y)) := by
  obtain ⟨h1, h2⟩ := h
  rw [List.length_set]
  refine ⟨by rw [cells8_len, List.length_set]; omega, ?_⟩
  rcases h2 with ⟨h2, h3⟩ | ⟨g', cap', cur, e1, e2, e3, e4, e5, e6, e7⟩
  · omega
  · simp only [Value.slice.injEq, Option.some.injEq, Addr.mk.injEq] at e1
    obtain ⟨⟨rfl, -, -⟩, rfl, rfl⟩ := e1
    refine Or.inr ⟨g, cap, cur.setIfInBounds i (.int .u8 (y.toNat : Int)), rfl, e2, heap_setCell_same w g i _ 5 _ e3, e4, e5, by simpa using e6, ?_⟩
    rw [Array.toList_setIfInBounds, List.take_set, e7]
    simp [cells8, List.map_set]

end Go.Proofs.Ytgknpbgepgmmmaa.Cm
namespace Go.Proofs.Ytgknpbgepgmmmaa.Cm
open Go.RowKit Bn Kp

/-- What stands when it was put together. -/
def RepQ (w wc : World) (b A B : Nat) (st : R) (wr : Bool) (urs : Value) (rs : List (List UInt8)) : Prop :=
  Cr wc b A B st wr ∧ Below w.heap.size w wc ∧ wc.heap[w.heap.size]? = some (.cells #[.int .i64 0, .bool false, .slice none 0 0] 44 (0, 0)) ∧ wc.ownsRow b 9 1 urs rs.length (cT rs)
theorem Rep_last {w W : World} {b A B : Nat} {st : R} {wr : Bool} {urs : Value} {rs : List (List UInt8)} (h : RepQ w W b A B st wr urs rs) (o : Obj) : RepQ w (W.alloc o) b A B st wr urs rs := by
  obtain ⟨h1, h2, h3, r0⟩ := h
  exact ⟨h1.alloc o, h2.alloc h2.size o, heap_alloc_kept h3 o, r0.alloc o⟩
theorem Rep_set {w W : World} {b A B P : Nat} {st : R} {wr : Bool} {urs : Value} {rs : List (List UInt8)} {a0 a1 a2 : Value} (h : RepQ w W b A B st wr urs rs) (hz : Zb b P (.cells #[a0, a1, a2] 44) W) (hb : w.heap.size < b) (y0 y1 y2 : Value) :
    (((W.setCell ⟨P, 0, none⟩ y0).setCell ⟨P, 1, none⟩ y1).setCell ⟨P, 2, none⟩ y2).heap[P]? = some (.cells #[y0, y1, y2] 44 (0, 0)) ∧ RepQ w (((W.setCell ⟨P, 0, none⟩ y0).setCell ⟨P, 1, none⟩ y1).setCell ⟨P, 2, none⟩ y2) b A B st wr urs rs := by
  obtain ⟨h1, h2, h3, r0⟩ := h
  obtain ⟨z1, z2⟩ := hz
  obtain ⟨s1, s2⟩ := set_Rep (b := b) y0 y1 y2 z1 z2
  have hk : ∀ k, k ≠ P → (((W.setCell ⟨P, 0, none⟩ y0).setCell ⟨P, 1, none⟩ y1).setCell ⟨P, 2, none⟩ y2).heap[k]? = W.heap[k]? := fun k hk => by
    rw [Below.heap_setCell _ _ _ _ hk, Below.heap_setCell _ _ _ _ hk, Below.heap_setCell _ _ _ _ hk]
  generalize (((W.setCell ⟨P, 0, none⟩ y0).setCell ⟨P, 1, none⟩ y1).setCell ⟨P, 2, none⟩ y2) = W' at s1 s2 hk ⊢
  exact ⟨s1, h1.above s2, h2.trans (s2.mono (by omega)), by rw [hk _ (by omega)]; exact h3, own_off r0 z1 (by decide) hk⟩
theorem Rep_s {A B P : Nat} {u : World} (h : Sx A B u) (hne : P ≠ A) (y0 y1 y2 : Value) : Sx A B (((u.setCell ⟨P, 0, none⟩ y0).setCell ⟨P, 1, none⟩ y1).setCell ⟨P, 2, none⟩ y2) := by
  refine Eq.trans (World.cell?_of_block (w := u) (a := ⟨A, 0, none⟩) ?_) h
  show (World.setCell _ _ _).heap[A]? = _
  rw [Below.heap_setCell _ _ _ _ (Ne.symm hne), Below.heap_setCell _ _ _ _ (Ne.symm hne), Below.heap_setCell _ _ _ _ (Ne.symm hne)]

/-- What it leaves. -/
def RepR (w w' : World) (urs : Value) (rs : List (List UInt8)) : Prop := Below w.heap.size w w' ∧ w'.ownsRow w.heap.size 9 1 urs rs.length (cT rs)

set_option maxRecDepth 8000 in
set_option maxHeartbeats 20000000 in
theorem readReply_any {w : World} {v : Value} {bs : List UInt8} (hS : Sl w v bs) (hl : bs.length ≤ 900000) (er : Int) (ch : Bool) (rs : List (List UInt8)) (st1 st2 st3 : R) (wr2 : Bool) (e0 : rNum (some bs) = (er, st1)) (e1 : rFlag (st1) = (ch, st2)) (e2 : rdLs rText 1000 (st2) false = ((rs, st3), wr2)) :
    Calls Try.prog 20 #[v] w fun e w' => ∃ urs, e = .returned (.tuple #[.agg (okC st3 (wr2 || !cntOk er 14) #[.int .i64 er, .bool ch, urs] #[.int .i64 0, .bool false, .slice none 0 0]), .int .i64 (okN st3 (wr2 || !cntOk er 14))]) ∧ Hid (RepR w w' urs rs) := by
  have G2 : Hid (goS (st2) ≤ 1000000) := by
    have h0 := goS_num' (some bs)
    rw [e0] at h0
    dsimp only at h0
    have h1 := goS_flag (st1)
    rw [e1] at h1
    dsimp only at h1
    have hb : goS (some bs) = bs.length + 1 := rfl
    show _ ≤ _
    omega
  have E0 := hide e0
  have E1 := hide e1
  have E2 := hide e2
  obtain ⟨W0, hW0⟩ : ∃ W0, Hid (W0 = w.alloc (.cells #[.int .i64 0, .bool false, .slice none 0 0] 44)) := ⟨_, (rfl : _ = _)⟩
  have HR : Hid _ := readC_any v bs W0 (by rw [hW0.out]; exact hS.alloc _) (by omega)
  have HB0 : Hid (Below w.heap.size w W0) := by rw [hW0.out]; exact (Below.refl _ _).alloc (Nat.le_refl _) _
  have HZ0 : Hid (W0.heap[w.heap.size]? = some (.cells #[.int .i64 0, .bool false, .slice none 0 0] 44 (0, 0))) := by rw [hW0.out]; exact heap_alloc_new _ _
  have HSZ : Hid (W0.heap.size = w.heap.size + 1) := by show _ = _; rw [hW0.out]; simp
  obtain ⟨ao, cap, rfl, -, -⟩ := hS.shape
  clear hS e0 e1 e2 hl
  go_enter Try.func20, Try.ntmps20
  go_upto_region 1 with fail
  rw [← hW0.out]
  go_wp2_with fail
  refine Calls.mono HR.out ?_
  rintro e X ⟨A, rfl, HP⟩
  obtain ⟨b, B, hC, hA, hB, hb, hbX⟩ := HP.out
  have hsz := HSZ.out
  have q : Qs b A B X (some bs) false (fun W => W.heap[w.heap.size]? = some (.cells #[.int .i64 0, .bool false, .slice none 0 0] 44 (0, 0))) X :=
    ⟨hC, Wrote.refl _ _ _, by omega, fun W' hk => by
      rw [hk.block w.heap.size (by have := hbX.size; omega) (by omega) (by simp; omega), hbX.block _ (by omega)]
      exact HZ0.out⟩
  have HBX := hide (HB0.out.trans (hbX.mono HB0.out.size))
  have hbw : w.heap.size < b := by have := hbX.size; omega
  have hA0 : w.heap.size < A := by omega
  have hB0 : w.heap.size < B := by omega
  have hA : w.heap.size ≤ A := by omega
  have hB : w.heap.size ≤ B := by omega
  clear HR HP hb hbX hC hsz
  go_upto_region 2 with fail
  go_cut [5] from 8 to 21 (fun v5 wc => ∃ (P : Nat) (ars : Option Addr) (lrs crs : Nat), v5 = .pointer (some ⟨P, 0, none⟩) ∧ wc.heap[P]? = some (.cells #[.int .i64 er, .bool ch, .slice ars lrs crs] 44 (0, 0)) ∧ Hid (RepQ w wc b A B st3 wr2 (.slice ars lrs crs) rs))
  case first =>
    have d := q.s
    refine wp_region_noPanic ?_
    go_region_held (Sx A B) (first | with_reducible exact d | with_reducible exact dd | with_reducible exact q.drew.s | with_reducible exact cell_alloc d _ | with_reducible exact (q.alloc _).drew.s | with_reducible exact (q.drew.alloc _).s | with_reducible exact (q.drew.alloc _).drew.s)
      (first
        | (go_at_call 35; first
            | (have q' := qnumQ E0.out q.drew; (with_reducible refine Calls.mono q' ?_); clear q'; rintro e w9 ⟨rfl, q⟩; have d := q.s)
            | (have q' := fun o => qnumQ E0.out (q.alloc o).drew; (with_reducible refine Calls.mono (q' _) ?_); clear q'; rintro e w9 ⟨rfl, q⟩; have d := q.s)
            | (have q' := fun o => qnumQ E0.out (q.drew.alloc o); (with_reducible refine Calls.mono (q' _) ?_); clear q'; rintro e w9 ⟨rfl, q⟩; have d := q.s))
        | (go_at_call 43; first
            | (have q' := qflagQ E1.out q; (with_reducible refine Calls.mono q' ?_); clear q'; rintro e w9 ⟨rfl, q⟩; have d := q.s)
            | (have q' := fun o => qflagQ E1.out (q.alloc o); (with_reducible refine Calls.mono (q' _) ?_); clear q'; rintro e w9 ⟨rfl, q⟩; have d := q.s))
        | (go_at_call 44; first
            | (have q' := qrowsQ E2.out G2.out q; (with_reducible refine Calls.mono q' ?_); clear q'; rintro e w9 ⟨ars, lrs, crs, rfl, q⟩; have d := q.s; (first | (have hz : Zb b _ _ _ := q.now.1.2; obtain ⟨z0, z1, z2⟩ := cells_Rep hz.1; have zz := fun i => frozen_of_row w9 _ i _ _ hz.1; have dd := Rep_s d (ne_type hz.1 q.cr.at_ (by decide)) (.int .i64 er) (.bool ch) (.slice ars lrs crs); have HF := hide (Rep_set ⟨q.cr, HBX.out.trans (q.fr.below HBX.out.size hA hB), q.now.1.1, q.now.2⟩ hz hbw (.int .i64 er) (.bool ch) (.slice ars lrs crs))) | (have hq := hide (⟨q.cr, HBX.out.trans (q.fr.below HBX.out.size hA hB), q.now.1, q.now.2⟩ : RepQ w w9 b A B st3 wr2 (.slice ars lrs crs) rs))))
            | (have q' := fun o => qrowsQ E2.out G2.out (q.alloc o); (with_reducible refine Calls.mono (q' _) ?_); clear q'; rintro e w9 ⟨ars, lrs, crs, rfl, q⟩; have d := q.s; (first | (have hz : Zb b _ _ _ := q.now.1.2; obtain ⟨z0, z1, z2⟩ := cells_Rep hz.1; have zz := fun i => frozen_of_row w9 _ i _ _ hz.1; have dd := Rep_s d (ne_type hz.1 q.cr.at_ (by decide)) (.int .i64 er) (.bool ch) (.slice ars lrs crs); have HF := hide (Rep_set ⟨q.cr, HBX.out.trans (q.fr.below HBX.out.size hA hB), q.now.1.1, q.now.2⟩ hz hbw (.int .i64 er) (.bool ch) (.slice ars lrs crs))) | (have hq := hide (⟨q.cr, HBX.out.trans (q.fr.below HBX.out.size hA hB), q.now.1, q.now.2⟩ : RepQ w w9 b A B st3 wr2 (.slice ars lrs crs) rs))))))
    all_goals refine NoPanic.normal ?_
    all_goals go_wp2_with fail
    all_goals go_meet
    all_goals first
      | (have hf := HF.out; exact ⟨_, ars, lrs, crs, rfl, hf.1, hf.2⟩)
      | (have hf := Rep_last hq.out (.cells #[.int .i64 er, .bool ch, .slice ars lrs crs] 44); exact ⟨w9.heap.size, ars, lrs, crs, rfl, heap_alloc_new _ _, hf⟩)
  case rest =>
    obtain ⟨P, ars, lrs, crs, rfl, hP, HQ⟩ := hcut
    clear q
    obtain ⟨wx, hwx⟩ : ∃ x, x = wc := ⟨_, rfl⟩
    subst hwx
    have HP := hide hP
    obtain ⟨c0, c1, c2⟩ := cells_Rep hP
    clear hP
    have HM := fun x => hide (must_any HQ.out.1 x)
    go_upto_region 3 with fail
    go_cut [] from 21 to 31 (fun wd => Hid (Cr wd b A B st3 (wr2 || !cntOk er 14) ∧ Kb A B wx wd))
    case first =>
      rcases (show (¬ 0 ≤ er) ∨ (0 ≤ er ∧ ¬ er ≤ 14) ∨ (0 ≤ er ∧ er ≤ 14) by omega) with h | ⟨h, h'⟩ | ⟨h, h'⟩
      · have e : cntOk er 14 = false := by simp [cntOk, h]
        go_wp2_with (go_at_call 37; refine Calls.mono (HM false).out ?_; rintro e w2 ⟨rfl, HP2⟩)
        go_meet
        rw [e]
        exact HP2.out
      · have e : cntOk er 14 = false := by simp [cntOk, h']
        go_wp2_with (go_at_call 37; refine Calls.mono (HM false).out ?_; rintro e w2 ⟨rfl, HP2⟩)
        go_meet
        rw [e]
        exact HP2.out
      · have e : cntOk er 14 = true := by simp [cntOk, h, h']
        go_wp2_with (go_at_call 37; refine Calls.mono (HM true).out ?_; rintro e w2 ⟨rfl, HP2⟩)
        go_meet
        rw [e]
        exact HP2.out
    case rest =>
      have HD := hcut
      clear hcut HM c0 c1 c2
      have hPA := ne_type HP.out HQ.out.1.at_ (by decide)
      have hPB : P ≠ B := by
        obtain ⟨_, hBB, _⟩ := HQ.out.1.q
        exact ne_type HP.out hBB (by decide)
      have hP : wc.heap[P]? = some (.cells #[.int .i64 er, .bool ch, .slice ars lrs crs] 44 (0, 0)) := (HD.out.2.block P (lt_of_block HP.out) hPB (by simpa using hPA)).trans HP.out
      have HQd : Hid (RepQ w wc b A B st3 (wr2 || !cntOk er 14) (.slice ars lrs crs) rs) := by
        obtain ⟨q1, q2, q3, r0⟩ := HQ.out
        exact ⟨HD.out.1, q2.trans (HD.out.2.below q2.size hA hB), (HD.out.2.block w.heap.size (lt_of_block q3) (by omega) (by simp; omega)).trans q3, own_kb r0 HD.out.2 q1.a_lt q1.b_lt⟩
      clear HQ HD HP hPA hPB
      have HQ := HQd
      obtain ⟨c0, c1, c2⟩ := cells_Rep hP
      have HT := hide (taken_Rep HQ.out.1 er ch ars lrs crs)
      have HF : Hid (∀ w6, Below wc.heap.size wc w6 → w6.heap[w.heap.size]? = some (.cells #[.int .i64 0, .bool false, .slice none 0 0] 44 (0, 0)) ∧ ∀ y0 y1 y2, RepR w (((w6.setCell ⟨w.heap.size, 0, none⟩ y0).setCell ⟨w.heap.size, 1, none⟩ y1).setCell ⟨w.heap.size, 2, none⟩ y2) (.slice ars lrs crs) rs) := by
        intro w6 h6
        obtain ⟨-, q2, q3, r0⟩ := HQ.out
        have z6 := (h6.block _ (lt_of_block q3)).trans q3
        refine ⟨z6, fun y0 y1 y2 => ?_⟩
        obtain ⟨s1, s2⟩ := set_Rep (b := w.heap.size) y0 y1 y2 z6 (Nat.le_refl _)
        have hk : ∀ k, k ≠ w.heap.size → (((w6.setCell ⟨w.heap.size, 0, none⟩ y0).setCell ⟨w.heap.size, 1, none⟩ y1).setCell ⟨w.heap.size, 2, none⟩ y2).heap[k]? = w6.heap[k]? := fun k hk => by
          rw [Below.heap_setCell _ _ _ _ hk, Below.heap_setCell _ _ _ _ hk, Below.heap_setCell _ _ _ _ hk]
        generalize (((w6.setCell ⟨w.heap.size, 0, none⟩ y0).setCell ⟨w.heap.size, 1, none⟩ y1).setCell ⟨w.heap.size, 2, none⟩ y2) = W' at s1 s2 hk ⊢
        exact ⟨(q2.trans (h6.mono q2.size)).trans s2, own_low (own_off (own_below r0 h6) z6 (by decide) hk) (by omega)⟩
      clear hP HQ
      cases hok : okB st3 (wr2 || !cntOk er 14)
      · rw [okC_f hok, okN_f hok] at HT
        have HOK := hide hok
        clear hok
        go_wp2_with fail
        refine Calls.mono HT.out ?_
        rintro e w6 ⟨rfl, hb6⟩
        have hz := (HF.out w6 hb6.out).1
        obtain ⟨z0, z1, z2⟩ := cells_Rep hz
        have zz := fun i => frozen_of_row w6 _ i _ _ hz
        have HZ := hide hz
        clear HT hz
        go_wp2_with fail
        refine bodyPost_ret (ret_cell rfl _ _ w.heap.size 44 _ rfl (set_Rep (b := w.heap.size) _ _ _ HZ.out (Nat.le_refl _)).1 Try.underlying44 sz_Rep) rfl ?_
        refine ⟨.slice ars lrs crs, ?_, (HF.out w6 hb6.out).2 _ _ _⟩
        rw [okC_f HOK.out, okN_f HOK.out]
        rfl
      · rw [okC_t hok, okN_t hok] at HT
        have HOK := hide hok
        clear hok
        go_wp2_with fail
        refine Calls.mono HT.out ?_
        rintro e w6 ⟨rfl, hb6⟩
        have hz := (HF.out w6 hb6.out).1
        obtain ⟨z0, z1, z2⟩ := cells_Rep hz
        have zz := fun i => frozen_of_row w6 _ i _ _ hz
        have HZ := hide hz
        clear HT hz
        go_wp2_with fail
        refine bodyPost_ret (ret_cell rfl _ _ w.heap.size 44 _ rfl (set_Rep (b := w.heap.size) _ _ _ HZ.out (Nat.le_refl _)).1 Try.underlying44 sz_Rep) rfl ?_
        refine ⟨.slice ars lrs crs, ?_, (HF.out w6 hb6.out).2 _ _ _⟩
        rw [okC_t HOK.out, okN_t HOK.out]
        rfl
end Go.Proofs.Ytgknpbgepgmmmaa.Cm
namespace Go.Proofs.Ytgknpbgepgmmmaa.Cm
open Go.RowKit Bn Kp

/-- A reply. -/
structure Rp where
  err : Int
  ch : Bool
  rows : List (List UInt8)
def encRp (r : Rp) : List UInt8 := enc r.err ++ (fl r.ch ++ (enc r.rows.length ++ r.rows.flatMap encT))
structure Rp.Ok (r : Rp) : Prop where
  err : 0 ≤ r.err ∧ r.err ≤ 14
  rows : r.rows.length ≤ 1000
  len : ∀ t ∈ r.rows, t.length ≤ 900000
def rRp (st : R) : (Rp × R) × Bool :=
  let a := rNum st
  let c := rFlag a.2
  let d := rdLs rText 1000 c.2 false
  ((⟨a.1, c.1, d.1.1⟩, d.1.2), d.2 || !cntOk a.1 14)
theorem rRp_enc (r : Rp) (h : r.Ok) : rRp (some (encRp r)) = ((r, some []), false) := by
  have h0 := h.err
  have h1 := h.rows
  have e1 := rNum_i r.err (fl r.ch ++ (enc r.rows.length ++ r.rows.flatMap encT)) ⟨by omega, by omega⟩
  have e2 := rFlag_fl r.ch (enc r.rows.length ++ r.rows.flatMap encT)
  have e3 := rdLs_enc rText encT r.rows (fun x hx s => rText_t x s (by have := h.len x hx; omega)) 1000 (by omega) (by omega) []
  rw [List.append_nil] at e3
  have e4 : cntOk r.err 14 = true := (cntOk_iff _ _).2 h.err
  simp only [rRp, encRp, e1, e2, e3, e4, Bool.not_true, Bool.or_false]
theorem rFlag_back {st : R} {b : Bool} {r : List UInt8} (h : rFlag st = (b, some r)) : ∃ bs, st = some bs ∧ bs = fl b ++ r := by
  match st with
  | none => simp [rFlag] at h
  | some [] => simp [rFlag] at h
  | some (c :: l) =>
    simp only [rFlag] at h
    split at h
    · simp at h
    · rename_i hc
      simp only [Prod.mk.injEq, Option.some.injEq] at h
      obtain ⟨h1, rfl⟩ := h
      refine ⟨_, rfl, ?_⟩
      have hc' : c = 0 ∨ c = 1 := by
        have : c.toNat = 0 ∨ c.toNat = 1 := by omega
        rcases this with h | h
        · exact Or.inl (UInt8.toNat_inj.1 h)
        · exact Or.inr (UInt8.toNat_inj.1 h)
      rcases hc' with rfl | rfl
      · have : b = false := by rw [← h1]; rfl
        subst this; rfl
      · have : b = true := by rw [← h1]; rfl
        subst this; rfl
theorem flat_each (ts : List (List UInt8)) : ∀ t ∈ ts, t.length ≤ (ts.flatMap encT).length := by
  induction ts with
  | nil => intro t h; simp at h
  | cons a l ih =>
    intro t h
    have h1 := encT_len a
    simp only [List.flatMap_cons, List.length_append]
    rcases List.mem_cons.1 h with rfl | h2
    · omega
    · have := ih t h2; omega
theorem flat_count (ts : List (List UInt8)) : ts.length ≤ (ts.flatMap encT).length := by
  induction ts with
  | nil => simp
  | cons a l ih => have h1 := encT_len a; simp only [List.flatMap_cons, List.length_append, List.length_cons]; omega
theorem rRp_back (bs : List UInt8) (hl : bs.length ≤ 900000) (h : okB (rRp (some bs)).1.2 (rRp (some bs)).2 = true) : encRp (rRp (some bs)).1.1 = bs ∧ 0 ≤ (rRp (some bs)).1.1.err ∧ (rRp (some bs)).1.1.err ≤ 14 ∧ ((rRp (some bs)).1.1.rows.flatMap encT).length ≤ 900000 := by
  obtain ⟨h1, h2⟩ := (okB_iff _ _).1 h
  obtain ⟨n1, st1, e1⟩ : ∃ n s, rNum (some bs) = (n, s) := ⟨_, _, rfl⟩
  obtain ⟨n2, st2, e2⟩ : ∃ n s, rFlag st1 = (n, s) := ⟨_, _, rfl⟩
  obtain ⟨ns, st3, wr, e3⟩ : ∃ ns s x, rdLs rText 1000 st2 false = ((ns, s), x) := ⟨_, _, _, rfl⟩
  have HE : rRp (some bs) = ((⟨n1, n2, ns⟩, st3), wr || !cntOk n1 14) := by simp only [rRp, e1, e2, e3]
  rw [HE] at h1 h2 ⊢
  dsimp only at h1 h2 ⊢
  rw [Bool.or_eq_false_iff] at h2
  obtain ⟨rfl, h3⟩ := h2
  subst h1
  have h4 := (cntOk_iff n1 14).1 (by simpa using h3)
  obtain ⟨b2, rfl, f2⟩ := rdLs_back rText encT (fun h => rText_back h) _ _ _ _ e3
  obtain ⟨b1, rfl, f1⟩ := rFlag_back e2
  have f0 := rNum_back _ _ _ e1
  have hb : encRp ⟨n1, n2, ns⟩ = bs := by
    rw [encRp, f0, f1, f2]
    simp
  refine ⟨hb, h4.1, h4.2, ?_⟩
  have hlen := congrArg List.length hb
  simp only [encRp, List.length_append] at hlen
  omega

/-- A reply as it is read. -/
structure RpV (w : World) (ar : Option Addr) (lr cr : Nat) (r : Rp) : Prop where
  rows : IsR w (.slice ar lr cr) (cT r.rows)
theorem RpV.below {w w' : World} {ar : Option Addr} {lr cr : Nat} {r : Rp} (h : RpV w ar lr cr r) (hb : Below w.heap.size w w') : RpV w' ar lr cr r := ⟨h.rows.below hb⟩
theorem readRp_any {w : World} {v : Value} {bs : List UInt8} (hS : Sl w v bs) (hl : bs.length ≤ 900000) :
    Calls Try.prog 20 #[v] w fun e w' => ∃ ur, e = .returned (.tuple #[.agg (okC (rRp (some bs)).1.2 (rRp (some bs)).2 #[.int .i64 (rRp (some bs)).1.1.err, .bool (rRp (some bs)).1.1.ch, ur] #[.int .i64 0, .bool false, .slice none 0 0]), .int .i64 (okN (rRp (some bs)).1.2 (rRp (some bs)).2)]) ∧ Hid (RepR w w' ur (rRp (some bs)).1.1.rows) := by
  obtain ⟨n1, st1, e1⟩ : ∃ n s, rNum (some bs) = (n, s) := ⟨_, _, rfl⟩
  obtain ⟨n2, st2, e2⟩ : ∃ n s, rFlag st1 = (n, s) := ⟨_, _, rfl⟩
  obtain ⟨ns, st3, wr, e3⟩ : ∃ ns s x, rdLs rText 1000 st2 false = ((ns, s), x) := ⟨_, _, _, rfl⟩
  have HE : rRp (some bs) = ((⟨n1, n2, ns⟩, st3), wr || !cntOk n1 14) := by simp only [rRp, e1, e2, e3]
  rw [HE]
  exact readReply_any hS hl n1 n2 ns st1 st2 st3 wr e1 e2 e3
theorem readRp_ok {w : World} {v : Value} {bs : List UInt8} (hS : Sl w v bs) (hl : bs.length ≤ 900000) (h : okB (rRp (some bs)).1.2 (rRp (some bs)).2 = true) :
    Calls Try.prog 20 #[v] w fun e w' => ∃ ar lr cr, e = .returned (.tuple #[.agg #[.int .i64 (rRp (some bs)).1.1.err, .bool (rRp (some bs)).1.1.ch, .slice ar lr cr], .int .i64 0]) ∧ Hid (RpV w' ar lr cr (rRp (some bs)).1.1 ∧ Below w.heap.size w w') := by
  refine (readRp_any hS hl).mono ?_
  rintro e w' ⟨ur, he, hp⟩
  obtain ⟨h1, h2⟩ := hp.out
  obtain ⟨ar, lr, cr, rfl⟩ := Kp.own_slice h2
  rw [okC_t h, okN_t h] at he
  exact ⟨ar, lr, cr, he, ⟨IsR.of_own h2⟩, h1⟩
theorem readRp_no {w : World} {v : Value} {bs : List UInt8} (hS : Sl w v bs) (hl : bs.length ≤ 900000) (h : okB (rRp (some bs)).1.2 (rRp (some bs)).2 = false) :
    Calls Try.prog 20 #[v] w fun e w' => e = .returned (.tuple #[.agg #[.int .i64 0, .bool false, .slice none 0 0], .int .i64 3]) ∧ Hid (Below w.heap.size w w') := by
  refine (readRp_any hS hl).mono ?_
  rintro e w' ⟨ur, he, hp⟩
  rw [okC_f h, okN_f h] at he
  exact ⟨he, hp.out.1⟩
/-- A reply's values. -/
theorem rp_enc {W : World} (r : Rp) {ar : Option Addr} {lr cr : Nat} (h : RpV W ar lr cr r) (he : I64 r.err) (hl : (r.rows.flatMap encT).length ≤ 10000000000) :
    Calls Try.prog 19 #[.agg #[.int .i64 r.err, .bool r.ch, .slice ar lr cr]] W fun e w' => ∃ ao L cap, e = .returned (.slice ao L cap) ∧ Hid (Own8 W w' (.slice ao L cap) (encRp r)) :=
  reply_any r.err r.ch r.rows ar lr cr he h.rows hl

/-- A text cut short. -/
theorem cutS (t : List UInt8) (W : World) (hl : t.length ≤ 9223372036854775807) :
    Calls Try.prog 29 #[tx t, .int .i64 40] W fun e w' => e = .returned (tx (t.take 40)) ∧ w' = W := by
  have hs := tx_size t
  obtain ⟨T, hT⟩ : ∃ T : ByteArray, Hid (⟨t.toArray⟩ = T) := ⟨_, (rfl : _ = _)⟩
  obtain ⟨U, hU⟩ : ∃ U : ByteArray, Hid (⟨(t.take 40).toArray⟩ = U) := ⟨_, (rfl : _ = _)⟩
  rw [tx, tx, hT.out, hU.out]
  rw [hT.out] at hs
  by_cases h : 40 < t.length
  · have hI : (40 : Int) < ((T.size : Nat) : Int) := by omega
    have he : Hid (T.extract 0 40 = U) := by
      show _ = _
      rw [← hT.out, ← hU.out]
      apply ByteArray.ext
      simp [ByteArray.extract, ByteArray.copySlice]
    clear hs h
    go_enter Try.func29, Try.ntmps29
    go_wp2_with fail
    go_ret
    rw [he.out]
    exact ⟨rfl, rfl⟩
  · have hI : ¬ (40 : Int) < ((T.size : Nat) : Int) := by omega
    have he : Hid (T = U) := by
      show _ = _
      rw [← hT.out, ← hU.out, List.take_of_length_le (by omega)]
    clear hs h
    rw [← he.out]
    go_enter Try.func29, Try.ntmps29
    go_wp2_with fail
    go_ret
    exact ⟨rfl, rfl⟩

end Go.Proofs.Ytgknpbgepgmmmaa.Cm
