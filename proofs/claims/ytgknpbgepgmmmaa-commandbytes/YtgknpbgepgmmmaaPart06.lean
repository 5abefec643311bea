/- The lists of rows and of entries that are read. The writers of lists: numbers, texts, entries. What Snap, Msg and Reply write. What taken gives. What stands while a text is read: the reader, what was made so far; ReadSnap. -/
import Derived.Test.YtgknpbgepgmmmaaPart05
import Derived.Lib.ConvBytes
import Derived.Laws.ResultCell
namespace Go.Proofs.Ytgknpbgepgmmmaa.Cm
open Go.RowKit Bn Kp

theorem goS_len {st st' : R} (h : lenS st' ≤ lenS st - 1) (l : List UInt8) (hl : st = some l) (h0 : l = [] → st' = none) : goS st' + 1 ≤ goS st := by
  subst hl
  cases st' with
  | none => simp [goS]
  | some m =>
    simp only [lenS, goS, Option.getD_some] at h ⊢
    cases l with
    | nil => simp at h0
    | cons c r => simp only [List.length_cons] at h ⊢; omega
theorem goS_le {st st' : R} (h : lenS st' ≤ lenS st - 1) (hn : st = none → st' = none) : goS st' ≤ goS st := by
  cases st' with
  | none => simp [goS]
  | some m =>
    cases st with
    | none => simp at hn
    | some l => simp only [lenS, goS, Option.getD_some] at h ⊢; omega
theorem goS_text (l : List UInt8) : goS (rText (some l)).2 + 1 ≤ goS (some l) :=
  goS_len (rText_len _) l rfl (fun e => by subst e; rfl)
theorem goS_num' (st : R) : goS (rNum st).2 ≤ goS st := goS_le (rNum_len st) (fun e => by subst e; rfl)
theorem goS_text' (st : R) : goS (rText st).2 ≤ goS st := goS_le (rText_len st) (fun e => by subst e; rfl)
theorem goS_ent (l : List UInt8) : goS (rEnt (some l)).2 + 1 ≤ goS (some l) := by
  have h1 := goS_num l
  have h2 := goS_num' (rNum (some l)).2
  have h3 := goS_num' (rNum (rNum (some l)).2).2
  have h4 := goS_text' (rNum (rNum (rNum (some l)).2).2).2
  simp only [rEnt]
  omega

/-- A row of texts. -/
def cT (ts : List (List UInt8)) : List Value := ts.map tx
theorem Try.inf9 : (Try.prog.info? 9).map (fun i => (i.zero, i.size, i.bytes)) = some (some (.string ⟨#[]⟩), 1, 16) := by kernel_rfl
theorem Er.kb {b A B : Nat} {W W' : World} {v : Value} {es : List Ent} (h : Er b W v es) (hg : Kb A B W W') (hA : A < b) (hB : B < b) : Er b W' v es := by
  obtain ⟨us, h1, h2, h3⟩ := h
  refine ⟨us, h1, own_kb h2 hg hA hB, fun j e hj => ?_⟩
  obtain ⟨u, h4, h5⟩ := h3 j e hj
  exact ⟨u, h4, own_kb h5 hg hA hB⟩

set_option maxHeartbeats 2000000 in
theorem readRows_any {w : World} {b A B : Nat} {st : R} {wr : Bool} (h : Cr w b A B st wr) (most : Int) (hl : goS st ≤ 1000000) :
    Calls Try.prog 44 #[.pointer (some ⟨A, 0, none⟩), .int .i64 most, .func (.func 45) #[] #[]] w fun e w' => ∃ ao L cap, e = .returned (.slice ao L cap) ∧
      Hid (Cr w' b A B (rdLs rText most st wr).1.2 (rdLs rText most st wr).2 ∧ w'.ownsRow w.heap.size 9 1 (.slice ao L cap) (rdLs rText most st wr).1.1.length (cT (rdLs rText most st wr).1.1) ∧ Kb A B w w') := by
  obtain ⟨c0, c1, f0, f1⟩ := h.cells
  have HQ := hide (cnum h)
  have hbw := hide h.le
  have hAb := hide h.a_lt
  have hBb := hide h.b_lt
  obtain ⟨n0, st1, e1⟩ : ∃ n s, rNum st = (n, s) := ⟨_, _, rfl⟩
  have hn0 := rNum_bds st
  obtain ⟨wr1, HW1⟩ : ∃ x, Hid ((wr || !cntOk n0 most) = x) := ⟨_, (rfl : _ = _)⟩
  have HA : Hid (rdLs rText most st wr = (rdL rText wr1 n0.toNat st1, wr1)) := by
    show _ = _
    rw [rdLs, e1]
    simp only [HW1.out]
  have hl1 : Hid (goS st1 ≤ 1000000) := by
    have h1 := rNum_len st
    rw [e1] at h1
    show goS st1 ≤ 1000000
    cases st1 with
    | none => simp [goS]
    | some m =>
      cases st with
      | none => simp [rNum] at e1
      | some l => simp only [lenS, goS, Option.getD_some] at h1 hl ⊢; omega
  rw [e1] at HQ hn0
  clear e1 hl h
  go_enter Try.func44, Try.ntmps44
  go_wp2_with fail
  refine Calls.mono HQ.out ?_
  rintro e w1 ⟨rfl, HP1⟩
  clear HQ
  have HM := fun x => hide (must_any HP1.out.1 x)
  go_upto_region 2 with fail
  go_cut [] from 14 to 23 (fun wc => Hid (Cr wc b A B st1 wr1 ∧ Kb A B w wc))
  case first =>
    by_cases ha : 0 ≤ n0
    · by_cases hb : n0 ≤ most
      · have e : cntOk n0 most = true := by simp [cntOk, ha, hb]
        go_wp2_with (go_at_call 37; refine Calls.mono (HM true).out ?_; rintro e w2 ⟨rfl, HP2⟩)
        go_meet
        have h2 := HW1.out
        rw [e] at h2
        exact ⟨by rw [← h2]; exact HP2.out.1, HP1.out.2.trans HP2.out.2⟩
      · have e : cntOk n0 most = false := by simp [cntOk, hb]
        go_wp2_with (go_at_call 37; refine Calls.mono (HM false).out ?_; rintro e w2 ⟨rfl, HP2⟩)
        go_meet
        have h2 := HW1.out
        rw [e] at h2
        exact ⟨by rw [← h2]; exact HP2.out.1, HP1.out.2.trans HP2.out.2⟩
    · have e : cntOk n0 most = false := by simp [cntOk, ha]
      go_wp2_with (go_at_call 37; refine Calls.mono (HM false).out ?_; rintro e w2 ⟨rfl, HP2⟩)
      go_meet
      have h2 := HW1.out
      rw [e] at h2
      exact ⟨by rw [← h2]; exact HP2.out.1, HP1.out.2.trans HP2.out.2⟩
  case rest =>
    have HC := hcut
    clear hcut HM HP1 HW1 c0 c1 f0 f1
    go_wp2_with fail
    go_loopw [7, 8] (fun cv lv wr => ∃ (n : Int) (cs : List (List UInt8)) (st : R), cv = .int .i64 n ∧ (-9223372036854775808 ≤ n ∧ n ≤ 9223372036854775807) ∧ cs.length + goS st ≤ 1000000 ∧ Hid (Cr wr b A B st wr1 ∧ Kb A B w wr ∧ wr.ownsRow w.heap.size 9 1 lv cs.length (cT cs)) ∧ Hid (cs ++ (rdL rText wr1 n.toNat st).1 = (rdL rText wr1 n0.toNat st1).1 ∧ (rdL rText wr1 n.toNat st).2 = (rdL rText wr1 n0.toNat st1).2)) (fun cv _ _ => (intOf cv).toNat)
    case atStart => exact ⟨n0, [], st1, rfl, hn0, by simpa using hl1.out, ⟨HC.out.1, HC.out.2, World.ownsRow_nil _ _ _ _⟩, rfl, rfl⟩
    case round =>
      obtain ⟨n, cs, st, rfl, hn, hlen, HS, HE⟩ := hrel
      obtain ⟨ao, L, cap, rfl⟩ := Kp.own_slice HS.out.2.2
      by_cases hp : 0 < n
      · have HG := hide (goesOn_any HS.out.1)
        cases hg : (st.isSome && !wr1)
        · rw [hg] at HG
          have HOff := hide (rdL_off rText wr1 n.toNat st hg)
          clear hg
          go_wp2_with fail
          refine Calls.mono HG.out ?_
          rintro e w4 ⟨rfl, hw4⟩
          have hw4' := hw4.symm
          subst hw4'
          clear hw4
          go_wp2_with fail
          go_ret
          refine ⟨ao, L, cap, rfl, ?_⟩
          have h1 := HE.out
          rw [HOff.out, List.append_nil] at h1
          rw [HA.out, ← h1.2, ← h1.1]
          exact ⟨HS.out.1, HS.out.2.2, HS.out.2.1⟩
        · rw [hg] at HG
          obtain ⟨l, rfl, rfl⟩ : ∃ l, st = some l ∧ wr1 = false := by
            cases st with
            | none => simp at hg
            | some l => cases wr1 <;> simp at hg ⊢
          clear hg
          have hgo := goS_text l
          have HCs := hide (rdL_step rText n l hp)
          obtain ⟨y, st4, e4⟩ : ∃ y st4, rText (some l) = (y, st4) := ⟨_, _, rfl⟩
          have HI := hide (readRow_any HS.out.1)
          rw [e4] at HCs hgo HI
          clear e4
          go_wp2_with fail
          refine Calls.mono HG.out ?_
          rintro e w4 ⟨rfl, hw4⟩
          have hw4' := hw4.symm
          subst hw4'
          clear hw4
          have hlc : cs.length ≤ 1000000 := by omega
          go_wp2_with fail
          refine Calls.mono HI.out ?_
          rintro e w5 ⟨rfl, HP5⟩
          have hpp := list_push 42 9 1 16 (.string ⟨#[]⟩) Try.underlying42 Try.inf9 rfl (by decide) (by decide) HP5.out.1 HS.out.2.1 HP5.out.2 HS.out.2.2 hbw.out [tx y] rfl (by intro u hu; rw [List.mem_singleton.1 hu]; rfl) hlc
          obtain ⟨g, cap', w6, hr, HO6, -⟩ := hpp
          clear HI HG
          go_wp2_with (at_builtin; refine wpList_append_run _ rfl (.tmp 31) (.tmp 35) 42 42 rfl _ _ rfl rfl (hr _) ?_)
          go_roundw
          case rel =>
            refine ⟨n - 1, cs ++ [y], st4, by go_num, by omega, by simp; omega, ?_, ?_⟩
            · refine ⟨HO6.out.1, HO6.out.2.1, ?_⟩
              have e : cT (cs ++ [y]) = cT cs ++ [tx y] := by simp [cT]
              rw [e, List.length_append]
              exact HO6.out.2.2
            · have h1 := HE.out
              rw [HCs.out] at h1
              exact ⟨by rw [List.append_assoc]; exact h1.1, h1.2⟩
          case measure => simp [intOf]; omega
      · have HOff := hide (rdL_zero rText wr1 n st hp)
        go_wp2_with fail
        go_ret
        refine ⟨ao, L, cap, rfl, ?_⟩
        have h1 := HE.out
        rw [HOff.out, List.append_nil] at h1
        rw [HA.out, ← h1.2, ← h1.1]
        exact ⟨HS.out.1, HS.out.2.2, HS.out.2.1⟩

theorem four_one (x y z : Int) (ad : Option Addr) (ld cd : Nat) : ∀ u ∈ ([.int .i64 x, .int .i64 y, .int .i64 z, .slice ad ld cd] : List Value), u.oneCell' = true := by
  intro u hu
  simp only [List.mem_cons, List.not_mem_nil, or_false] at hu
  rcases hu with rfl | rfl | rfl | rfl <;> rfl

set_option maxHeartbeats 2000000 in
theorem readEnts_any {w : World} {b A B : Nat} {st : R} {wr : Bool} (h : Cr w b A B st wr) (most : Int) (hl : goS st ≤ 1000000) :
    Calls Try.prog 51 #[.pointer (some ⟨A, 0, none⟩), .int .i64 most, .func (.func 52) #[] #[]] w fun e w' => ∃ ao L cap, e = .returned (.slice ao L cap) ∧
      Hid (Cr w' b A B (rdLs rEnt most st wr).1.2 (rdLs rEnt most st wr).2 ∧ Er w.heap.size w' (.slice ao L cap) (rdLs rEnt most st wr).1.1 ∧ Kb A B w w') := by
  obtain ⟨c0, c1, f0, f1⟩ := h.cells
  have HQ := hide (cnum h)
  have hbw := hide h.le
  have hAb := hide h.a_lt
  have hBb := hide h.b_lt
  obtain ⟨n0, st1, e1⟩ : ∃ n s, rNum st = (n, s) := ⟨_, _, rfl⟩
  have hn0 := rNum_bds st
  obtain ⟨wr1, HW1⟩ : ∃ x, Hid ((wr || !cntOk n0 most) = x) := ⟨_, (rfl : _ = _)⟩
  have HA : Hid (rdLs rEnt most st wr = (rdL rEnt wr1 n0.toNat st1, wr1)) := by
    show _ = _
    rw [rdLs, e1]
    simp only [HW1.out]
  have hl1 : Hid (goS st1 ≤ 1000000) := by
    have h1 := rNum_len st
    rw [e1] at h1
    show goS st1 ≤ 1000000
    cases st1 with
    | none => simp [goS]
    | some m =>
      cases st with
      | none => simp [rNum] at e1
      | some l => simp only [lenS, goS, Option.getD_some] at h1 hl ⊢; omega
  rw [e1] at HQ hn0
  clear e1 hl h
  go_enter Try.func51, Try.ntmps51
  go_wp2_with fail
  refine Calls.mono HQ.out ?_
  rintro e w1 ⟨rfl, HP1⟩
  clear HQ
  have HM := fun x => hide (must_any HP1.out.1 x)
  go_upto_region 2 with fail
  go_cut [] from 14 to 23 (fun wc => Hid (Cr wc b A B st1 wr1 ∧ Kb A B w wc))
  case first =>
    by_cases ha : 0 ≤ n0
    · by_cases hb : n0 ≤ most
      · have e : cntOk n0 most = true := by simp [cntOk, ha, hb]
        go_wp2_with (go_at_call 37; refine Calls.mono (HM true).out ?_; rintro e w2 ⟨rfl, HP2⟩)
        go_meet
        have h2 := HW1.out
        rw [e] at h2
        exact ⟨by rw [← h2]; exact HP2.out.1, HP1.out.2.trans HP2.out.2⟩
      · have e : cntOk n0 most = false := by simp [cntOk, hb]
        go_wp2_with (go_at_call 37; refine Calls.mono (HM false).out ?_; rintro e w2 ⟨rfl, HP2⟩)
        go_meet
        have h2 := HW1.out
        rw [e] at h2
        exact ⟨by rw [← h2]; exact HP2.out.1, HP1.out.2.trans HP2.out.2⟩
    · have e : cntOk n0 most = false := by simp [cntOk, ha]
      go_wp2_with (go_at_call 37; refine Calls.mono (HM false).out ?_; rintro e w2 ⟨rfl, HP2⟩)
      go_meet
      have h2 := HW1.out
      rw [e] at h2
      exact ⟨by rw [← h2]; exact HP2.out.1, HP1.out.2.trans HP2.out.2⟩
  case rest =>
    have HC := hcut
    clear hcut HM HP1 HW1 c0 c1 f0 f1
    go_wp2_with fail
    go_loopw [7, 8] (fun cv lv wr => ∃ (n : Int) (cs : List Ent) (st : R), cv = .int .i64 n ∧ (-9223372036854775808 ≤ n ∧ n ≤ 9223372036854775807) ∧ cs.length + goS st ≤ 1000000 ∧ Hid (Cr wr b A B st wr1 ∧ Kb A B w wr ∧ Er w.heap.size wr lv cs) ∧ Hid (cs ++ (rdL rEnt wr1 n.toNat st).1 = (rdL rEnt wr1 n0.toNat st1).1 ∧ (rdL rEnt wr1 n.toNat st).2 = (rdL rEnt wr1 n0.toNat st1).2)) (fun cv _ _ => (intOf cv).toNat)
    case atStart => exact ⟨n0, [], st1, rfl, hn0, by simpa using hl1.out, ⟨HC.out.1, HC.out.2, Er.nil _ _⟩, rfl, rfl⟩
    case round =>
      obtain ⟨n, cs, st, rfl, hn, hlen, HS, HE⟩ := hrel
      obtain ⟨us, hu1, hu2, hu3⟩ := HS.out.2.2
      have HU1 := hide hu1
      have HU2 := hide hu2
      have HU3 := hide hu3
      obtain ⟨ao, L, cap, rfl⟩ := Kp.own_slice hu2
      clear hu1 hu2 hu3
      by_cases hp : 0 < n
      · have HG := hide (goesOn_any HS.out.1)
        cases hg : (st.isSome && !wr1)
        · rw [hg] at HG
          have HOff := hide (rdL_off rEnt wr1 n.toNat st hg)
          clear hg
          go_wp2_with fail
          refine Calls.mono HG.out ?_
          rintro e w4 ⟨rfl, hw4⟩
          have hw4' := hw4.symm
          subst hw4'
          clear hw4
          go_wp2_with fail
          go_ret
          refine ⟨ao, L, cap, rfl, ?_⟩
          have h1 := HE.out
          rw [HOff.out, List.append_nil] at h1
          rw [HA.out, ← h1.2, ← h1.1]
          exact ⟨HS.out.1, HS.out.2.2, HS.out.2.1⟩
        · rw [hg] at HG
          obtain ⟨l, rfl, rfl⟩ : ∃ l, st = some l ∧ wr1 = false := by
            cases st with
            | none => simp at hg
            | some l => cases wr1 <;> simp at hg ⊢
          clear hg
          have hgo := goS_ent l
          have HCs := hide (rdL_step rEnt n l hp)
          obtain ⟨y, st4, e4⟩ : ∃ y st4, rEnt (some l) = (y, st4) := ⟨_, _, rfl⟩
          have HI := hide (readEntry_any HS.out.1)
          unfold EntR at HI
          rw [e4] at HCs hgo HI
          clear e4
          go_wp2_with fail
          refine Calls.mono HG.out ?_
          rintro e w4 ⟨rfl, hw4⟩
          have hw4' := hw4.symm
          subst hw4'
          clear hw4
          have hlc : cs.length ≤ 1000000 := by omega
          go_wp2_with fail
          refine Calls.mono HI.out ?_
          rintro e w5 ⟨dv, rfl, HP5⟩
          obtain ⟨ad, ld, cd, rfl⟩ := Kp.own_slice (HP5.out.2.2 : World.ownsRow _ _ _ _ _ _ _)
          have hpp := list_push 51 90 4 48 _ Try.underlying51 Try.info90 rfl (by decide) (by decide) HP5.out.1 HS.out.2.1 HP5.out.2.1 HU2.out hbw.out [.int .i64 y.idx, .int .i64 y.term, .int .i64 y.kind, .slice ad ld cd] rfl (four_one _ _ _ _ _ _) hlc
          obtain ⟨g, cap', w6, hr, HO6, HG6⟩ := hpp
          clear HI HG
          go_wp2_with (at_builtin; refine wpList_append_run _ rfl (.tmp 31) (.tmp 35) 51 51 rfl _ _ rfl rfl (hr _) ?_)
          go_roundw
          case rel =>
            refine ⟨n - 1, cs ++ [y], st4, by go_num, by omega, by simp; omega, ?_, ?_⟩
            · have hA := hAb.out
              have hB := hBb.out
              have hbw' := hbw.out
              have hd : w5.ownsRow w.heap.size 5 1 (.slice ad ld cd) y.data.length (cells8 y.data) := by
                exact own_low (HP5.out.2.2 : World.ownsRow _ _ _ _ _ _ _) HS.out.2.1.size
              exact ⟨HO6.out.1, HO6.out.2.1, Er.push HU1.out (own_kb HU2.out HP5.out.2.1 (by omega) (by omega)) (fun j x hj => by
                obtain ⟨u, h4, h5⟩ := HU3.out j x hj
                exact ⟨u, h4, own_kb h5 HP5.out.2.1 (by omega) (by omega)⟩) hd HO6.out.2.2 HG6.out⟩
            · have h1 := HE.out
              rw [HCs.out] at h1
              exact ⟨by rw [List.append_assoc]; exact h1.1, h1.2⟩
          case measure => simp [intOf]; omega
      · have HOff := hide (rdL_zero rEnt wr1 n st hp)
        go_wp2_with fail
        go_ret
        refine ⟨ao, L, cap, rfl, ?_⟩
        have h1 := HE.out
        rw [HOff.out, List.append_nil] at h1
        rw [HA.out, ← h1.2, ← h1.1]
        exact ⟨HS.out.1, HS.out.2.2, HS.out.2.1⟩

end Go.Proofs.Ytgknpbgepgmmmaa.Cm
namespace Go.Proofs.Ytgknpbgepgmmmaa.Cm
open Go.RowKit Bn Kp

theorem tx_data (t : List UInt8) : (⟨t.toArray⟩ : ByteArray).size = t.length := by simp [ByteArray.size]
/-- A text as bytes: a new row. -/
theorem conv_sl (W : World) (t : List UInt8) (hl : t.length ≤ 140737488355328) :
    ∃ cap w', (convert 9 24 (tx t)).run Try.prog W = .ok (.slice (some ⟨W.heap.size, 0, none⟩) t.length cap) w' ∧ Hid (Sl w' (.slice (some ⟨W.heap.size, 0, none⟩) t.length cap) t ∧ Below W.heap.size W w') := by
  have hr := Lib.run_convert_string_bytes (P := Try.prog) W 9 24 5 ⟨t.toArray⟩ Try.underlying9 Try.underlying24 Try.underlying5
  rw [tx_data] at hr
  have hg := grownCap_ge W t.length 0 5
  have hm := grownCap_le_maxLen W t.length 0 5 (by simp only [maxLen]; omega)
  refine ⟨_, _, hr, ⟨some ⟨W.heap.size, 0, none⟩, _, rfl, hg, hm, fun e => by simp at e, fun _ => ⟨W.heap.size, 0, rfl, fun j hj => ?_⟩⟩, ?_⟩
  · have := Lib.bytesWorld_cell W 5 ⟨t.toArray⟩ j (by rw [tx_data]; exact hj)
    rw [Nat.zero_add, this]
    simp [at8]
  · exact ⟨rfl, rfl, rfl, by rw [Lib.bytesWorld_size]; omega, fun k hk => Lib.bytesWorld_at_old W 5 _ k hk⟩

theorem sl_at {w w' : World} {g o n cap : Nat} {t : List UInt8} (h : Sl w (.slice (some ⟨g, o, none⟩) n cap) t) (hg : w'.heap[g]? = w.heap[g]?) : Sl w' (.slice (some ⟨g, o, none⟩) n cap) t := by
  obtain ⟨ao, c, e, h1, h2, h3, h4⟩ := h
  simp only [Value.slice.injEq] at e
  obtain ⟨rfl, rfl, rfl⟩ := e
  refine ⟨_, _, rfl, h1, h2, h3, fun hp => ?_⟩
  obtain ⟨g', off, e, hc⟩ := h4 hp
  simp only [Option.some.injEq, Addr.mk.injEq] at e
  obtain ⟨rfl, rfl, -⟩ := e
  exact ⟨_, _, rfl, fun j hj => (World.cell?_of_block (w := w) (a := ⟨g, o + j, none⟩) hg).trans (hc j hj)⟩

theorem wb_kept {w0 w w' : World} {bs : List UInt8} (h : Wb w0 w bs) (hb : Below w.heap.size w w') : Wb w0 w' bs := by
  obtain ⟨v, hW, hb0⟩ := h
  refine ⟨v, ⟨by rw [hb.block _ hW.lt]; exact hW.1, own_below hW.2 hb⟩, hb0.trans (hb.mono hb0.size)⟩

theorem wb_textN {w0 w w1 : World} {bs t : List UInt8} {g o n cap : Nat} (h : Wb w0 w bs) (hb : Below w.heap.size w w1) (hg : w.heap.size ≤ g) (hS : Sl w1 (.slice (some ⟨g, o, none⟩) n cap) t) (hl : bs.length + 10 + t.length ≤ 140737488355328) :
    Calls Try.prog 32 #[.pointer (some ⟨w0.heap.size, 0, none⟩), .slice (some ⟨g, o, none⟩) n cap] w1 fun e w' => e = .returned (.tuple #[]) ∧ Hid (Wb w0 w' (bs ++ encT t)) := by
  obtain ⟨v1, hW1, hb1⟩ := wb_kept h hb
  obtain ⟨v, hW, hb0⟩ := h
  have hev : v1 = v := by
    have h1 := hW1.1
    rw [hb.block _ hW.lt, hW.1] at h1
    simp at h1
    exact h1.symm
  subst hev
  have hsz := hb0.size
  have hlt := hW.lt
  by_cases hgl : g < w1.heap.size
  · refine (wtext_any _ _ v1 _ bs t w1 hW1 (by have := hW1.lt; omega) hS (fun w' hw => ?_) hl).mono ?_
    · refine sl_at hS (hw.block g hgl (by omega) (fun e => ?_))
      have h2 := hW.2.lt g e.symm
      omega
    · rintro e w' ⟨rfl, v', hW', hr, _⟩
      exact ⟨rfl, Wb.step hW1 hb1 hW' hr⟩
  · have ht : t = [] := by
      rcases Nat.eq_zero_or_pos n with h0 | hp
      · have := hS.len
        exact List.eq_nil_of_length_eq_zero (by omega)
      · obtain ⟨g', off, e, hc⟩ := hS.cell hp
        simp only [Option.some.injEq, Addr.mk.injEq] at e
        have h1 := cell_lt (hc 0 hp)
        omega
    refine (wtext_any _ _ v1 _ bs t w1 hW1 (by have := hW1.lt; omega) hS (fun w' hw => ?_) hl).mono ?_
    · have h0 := hS.len
      obtain ⟨ao, c, e, h1, h2, h3, h4⟩ := hS
      subst ht
      exact ⟨ao, c, e, h1, h2, h3, fun hp => by simp at hp⟩
    · rintro e w' ⟨rfl, v', hW', hr, _⟩
      exact ⟨rfl, Wb.step hW1 hb1 hW' hr⟩

/-- A row of one-celled elements that is read. -/
def IsR (w : World) (v : Value) (xs : List Value) : Prop :=
  ∃ ao cap, v = .slice ao xs.length cap ∧ xs.length ≤ cap ∧ cap ≤ maxLen ∧ (0 < xs.length → ∃ g off, ao = some ⟨g, off, none⟩ ∧ ∀ j u, xs[j]? = some u → w.cell? ⟨g, off + j, none⟩ = some u)
theorem IsR.below {w w' : World} {v : Value} {xs : List Value} (h : IsR w v xs) (hb : Below w.heap.size w w') : IsR w' v xs := by
  obtain ⟨ao, cap, hv, h1, h2, h4⟩ := h
  refine ⟨ao, cap, hv, h1, h2, fun hp => ?_⟩
  obtain ⟨g, off, ha, hc⟩ := h4 hp
  exact ⟨g, off, ha, fun j u hj => (World.cell?_of_block (w := w) (a := ⟨g, off + j, none⟩) (hb.block g (cell_lt (hc j u hj)))).trans (hc j u hj)⟩
theorem IsR.of_own {w : World} {b e : Nat} {v : Value} {n : Nat} {xs : List Value} (h : w.ownsRow b e 1 v n xs) : IsR w v xs := by
  have hn : xs.length = n := by have := h.1; omega
  subst hn
  rcases h.2 with ⟨rfl, h0⟩ | ⟨g, cap, cur, rfl, _, hg, h1, h2, _, h3⟩
  · exact ⟨none, 0, by rw [h0], by omega, by simp [maxLen], fun hp => by omega⟩
  · refine ⟨_, cap, rfl, h1, h2, fun _ => ⟨g, 0, rfl, fun j u hj => ?_⟩⟩
    have hj' := (List.getElem?_eq_some_iff.1 hj).1
    rw [Nat.zero_add, h.cellAt j (by omega), hj]


theorem cI_at (ns : List Int) (k : Nat) (n : Int) (h : ns[k]? = some n) : (cI ns)[k]? = some (.int .i64 n) := by simp [cI, h]
theorem cT_at (ns : List (List UInt8)) (k : Nat) (n : List UInt8) (h : ns[k]? = some n) : (cT ns)[k]? = some (tx n) := by simp [cT, h]
theorem enc_len_le (ns : List Int) : (ns.flatMap enc).length ≤ 10 * ns.length := by
  induction ns with
  | nil => simp
  | cons a l ih => have := enc_le a; simp only [List.flatMap_cons, List.length_append, List.length_cons]; omega
theorem flat_take {α : Type} (f : α → List UInt8) (ns : List α) (k : Nat) (e : α) (h : ns[k]? = some e) : (ns.take (k + 1)).flatMap f = (ns.take k).flatMap f ++ f e := by
  obtain ⟨hk, rfl⟩ := List.getElem?_eq_some_iff.1 h
  rw [List.take_add_one, List.getElem?_eq_getElem hk, Option.toList_some, List.flatMap_append]
  simp
theorem flat_cut {α : Type} (f : α → List UInt8) (ns : List α) (k : Nat) (e : α) (h : ns[k]? = some e) : ((ns.take k).flatMap f).length + (f e).length ≤ (ns.flatMap f).length := by
  obtain ⟨hk, rfl⟩ := List.getElem?_eq_some_iff.1 h
  have e1 : ns = ns.take k ++ ns[k] :: ns.drop (k + 1) := by simp
  conv => rhs; rw [e1]
  simp only [List.flatMap_append, List.flatMap_cons, List.length_append]
  omega
theorem encT_len (t : List UInt8) : t.length + 1 ≤ (encT t).length := by have := enc_pos t.length; simp [encT]; omega

set_option maxHeartbeats 400000 in
theorem writeId_any {w0 w : World} {bs : List UInt8} (h : Wb w0 w bs) (n : Int) (hn : I64 n) (hl : bs.length + 10 ≤ 140737488355328) :
    Calls Try.prog 50 #[.pointer (some ⟨w0.heap.size, 0, none⟩), .int .i64 n] w fun e w' => e = .returned (.tuple #[]) ∧ Hid (Wb w0 w' (bs ++ enc n)) := by
  have H := hide (wb_num h n hn hl)
  clear h hl
  go_enter Try.func50, Try.ntmps50
  go_wp2_with fail
  refine Calls.mono H.out ?_
  rintro e w1 ⟨rfl, HP⟩
  go_wp2_with fail
  go_end0
  exact ⟨rfl, HP⟩

set_option maxHeartbeats 400000 in
theorem writeRow_any {w0 w : World} {bs : List UInt8} (h : Wb w0 w bs) (t : List UInt8) (hl : bs.length + 10 + t.length ≤ 140737488355328) :
    Calls Try.prog 42 #[.pointer (some ⟨w0.heap.size, 0, none⟩), tx t] w fun e w' => e = .returned (.tuple #[]) ∧ Hid (Wb w0 w' (bs ++ encT t)) := by
  obtain ⟨cap, w1, hr, HS⟩ := conv_sl w t (by omega)
  have H := hide (wb_textN h HS.out.2 (Nat.le_refl _) HS.out.1 hl)
  clear h hl HS
  go_enter Try.func42, Try.ntmps42
  go_wp2_with fail
  refine Calls.mono H.out ?_
  rintro e w2 ⟨rfl, HP⟩
  go_wp2_with fail
  go_end0
  exact ⟨rfl, HP⟩

set_option maxHeartbeats 1000000 in
theorem writeIds_any {w0 w : World} {bs : List UInt8} (h : Wb w0 w bs) (v : Value) (ns : List Int) (hv : IsR w0 v (cI ns)) (ho : ∀ n ∈ ns, I64 n) (hl : bs.length + (ns.flatMap enc).length + 20 ≤ 140737488355328) :
    Calls Try.prog 49 #[.pointer (some ⟨w0.heap.size, 0, none⟩), v, .func (.func 50) #[] #[]] w fun e w' => e = .returned (.tuple #[]) ∧ Hid (Wb w0 w' (bs ++ enc ns.length ++ ns.flatMap enc)) := by
  obtain ⟨ao, cap, rfl, h1, h2, h4⟩ := hv
  have hcl : (cI ns).length = ns.length := by simp [cI]
  rw [hcl] at h1 h4 ⊢
  have h2' : cap ≤ 9223372036854775807 := h2
  have H4 := hide h4
  have HO := hide ho
  have HL := hide hl
  have H0 := hide (wb_num h ns.length ⟨by omega, by omega⟩ (by omega))
  have hN : ns.length ≤ 9223372036854775807 := by omega
  clear h4 h2 ho hl h hcl
  obtain ⟨N, hNe⟩ : ∃ N, Hid (ns.length = N) := ⟨_, (rfl : _ = _)⟩
  rw [hNe.out] at h1 H4 H0 hN ⊢
  go_enter Try.func49, Try.ntmps49
  go_wp2_with fail
  refine Calls.mono H0.out ?_
  rintro e w1 ⟨rfl, H1⟩
  clear H0
  go_wp2_with fail
  go_loopw [14] (fun i wr => ∃ k : Nat, k ≤ N ∧ i = .int .i64 k ∧ Hid (Wb w0 wr (bs ++ enc N ++ (ns.take k).flatMap enc))) (fun i _ => N - (intOf i).toNat)
  case atStart => exact ⟨0, Nat.zero_le _, rfl, by show Wb _ _ _; simpa using H1.out⟩
  case round =>
    obtain ⟨k, hk, rfl, HB⟩ := hrel
    by_cases hx : k < N
    · obtain ⟨g, off, rfl, hc⟩ := H4.out (by omega)
      obtain ⟨e, he⟩ : ∃ e, ns[k]? = some e := ⟨_, List.getElem?_eq_getElem (by rw [hNe.out]; exact hx)⟩
      obtain ⟨_, hWr, hbb⟩ := HB.out
      have hce := hc k _ (cI_at ns k e he)
      have d0 : wr.cell? ⟨g, off + k, none⟩ = some (.int .i64 e) := (World.cell?_of_block (w := w0) (a := ⟨g, off + k, none⟩) (hbb.block g (cell_lt hce))).trans hce
      have HW := hide (writeId_any HB.out e (HO.out e (List.mem_of_getElem? he)) (by
        have h3 := HL.out
        have h5 := flat_cut enc ns k e he
        have h6 := enc_le N
        simp only [List.length_append]
        omega))
      clear hc hce hWr hbb
      go_wp2_with fail
      refine Calls.mono HW.out ?_
      rintro x w2 ⟨rfl, H2⟩
      clear HW
      go_wp2_with fail
      go_roundw
      case rel =>
        refine ⟨k + 1, by omega, rfl, ?_⟩
        show Wb _ _ _
        rw [flat_take enc ns k e he, ← List.append_assoc]
        exact H2.out
      case measure => simp [intOf]; omega
    · have hlt' : ¬ (k : Int) < (N : Int) := by omega
      go_wp2_with fail
      go_end0
      have := HB.out
      rw [List.take_of_length_le (by rw [hNe.out]; omega), List.append_assoc] at this
      exact ⟨rfl, this⟩

set_option maxHeartbeats 1000000 in
theorem writeRows_any {w0 w : World} {bs : List UInt8} (h : Wb w0 w bs) (v : Value) (ns : List (List UInt8)) (hv : IsR w0 v (cT ns)) (hl : bs.length + (ns.flatMap encT).length + 20 ≤ 140737488355328) :
    Calls Try.prog 41 #[.pointer (some ⟨w0.heap.size, 0, none⟩), v, .func (.func 42) #[] #[]] w fun e w' => e = .returned (.tuple #[]) ∧ Hid (Wb w0 w' (bs ++ enc ns.length ++ ns.flatMap encT)) := by
  obtain ⟨ao, cap, rfl, h1, h2, h4⟩ := hv
  have hcl : (cT ns).length = ns.length := by simp [cT]
  rw [hcl] at h1 h4 ⊢
  have h2' : cap ≤ 9223372036854775807 := h2
  have H4 := hide h4
  have HL := hide hl
  have H0 := hide (wb_num h ns.length ⟨by omega, by omega⟩ (by omega))
  have hN : ns.length ≤ 9223372036854775807 := by omega
  clear h4 h2 hl h hcl
  obtain ⟨N, hNe⟩ : ∃ N, Hid (ns.length = N) := ⟨_, (rfl : _ = _)⟩
  rw [hNe.out] at h1 H4 H0 hN ⊢
  go_enter Try.func41, Try.ntmps41
  go_wp2_with fail
  refine Calls.mono H0.out ?_
  rintro e w1 ⟨rfl, H1⟩
  clear H0
  go_wp2_with fail
  go_loopw [14] (fun i wr => ∃ k : Nat, k ≤ N ∧ i = .int .i64 k ∧ Hid (Wb w0 wr (bs ++ enc N ++ (ns.take k).flatMap encT))) (fun i _ => N - (intOf i).toNat)
  case atStart => exact ⟨0, Nat.zero_le _, rfl, by show Wb _ _ _; simpa using H1.out⟩
  case round =>
    obtain ⟨k, hk, rfl, HB⟩ := hrel
    by_cases hx : k < N
    · obtain ⟨g, off, rfl, hc⟩ := H4.out (by omega)
      obtain ⟨e, he⟩ : ∃ e, ns[k]? = some e := ⟨_, List.getElem?_eq_getElem (by rw [hNe.out]; exact hx)⟩
      obtain ⟨_, hWr, hbb⟩ := HB.out
      have hce := hc k _ (cT_at ns k e he)
      have d0 : wr.cell? ⟨g, off + k, none⟩ = some (tx e) := (World.cell?_of_block (w := w0) (a := ⟨g, off + k, none⟩) (hbb.block g (cell_lt hce))).trans hce
      have HW := hide (writeRow_any HB.out e (by
        have h3 := HL.out
        have h5 := flat_cut encT ns k e he
        have h6 := enc_le N
        have h7 := encT_len e
        simp only [List.length_append]
        omega))
      clear hc hce hWr hbb
      go_wp2_with fail
      refine Calls.mono HW.out ?_
      rintro x w2 ⟨rfl, H2⟩
      clear HW
      go_wp2_with fail
      go_roundw
      case rel =>
        refine ⟨k + 1, by omega, rfl, ?_⟩
        show Wb _ _ _
        rw [flat_take encT ns k e he, ← List.append_assoc]
        exact H2.out
      case measure => simp [intOf]; omega
    · have hlt' : ¬ (k : Int) < (N : Int) := by omega
      go_wp2_with fail
      go_end0
      have := HB.out
      rw [List.take_of_length_le (by rw [hNe.out]; omega), List.append_assoc] at this
      exact ⟨rfl, this⟩

theorem esz_flat (es : List Ent) : (es.flatMap encE).length ≤ esz es := flat_le es
set_option maxHeartbeats 1000000 in
theorem writeEntry_any {w0 w : World} {bs : List UInt8} (h : Wb w0 w bs) (e : Ent) (he : e.ok) (ad : Option Addr) (ld cd : Nat) (hS : Sl w0 (.slice ad ld cd) e.data) (hl : bs.length + (40 + e.data.length) ≤ 140737488355328) :
    Calls Try.prog 48 #[.pointer (some ⟨w0.heap.size, 0, none⟩), .agg #[.int .i64 e.idx, .int .i64 e.term, .int .i64 e.kind, .slice ad ld cd]] w fun x w' => x = .returned (.tuple #[]) ∧ Hid (Wb w0 w' (bs ++ encE e)) := by
  have HC := hide (ent_calls (h.alloc (.cells #[.int .i64 e.idx, .int .i64 e.term, .int .i64 e.kind, .slice ad ld cd] 90)) e he ad ld cd hS hl w.heap.size (heap_alloc_new _ _))
  clear h hS hl he
  go_enter Try.func48, Try.ntmps48
  go_wp2_with fail
  refine Calls.mono HC.out ?_
  rintro x w1 ⟨rfl, e1, H2⟩
  go_wp2_with fail
  refine Calls.mono H2.out ?_
  rintro x w2 ⟨rfl, e2, H3⟩
  go_wp2_with fail
  refine Calls.mono H3.out ?_
  rintro x w3 ⟨rfl, e3, H4⟩
  go_wp2_with fail
  refine Calls.mono H4.out ?_
  rintro x w4 ⟨rfl, H5⟩
  go_wp2_with fail
  go_end0
  exact ⟨rfl, H5⟩

set_option maxHeartbeats 1000000 in
theorem writeEnts_any {w0 w : World} {bs : List UInt8} (h : Wb w0 w bs) (v : Value) (es : List Ent) (hE : Es w0 v es) (ho : ∀ e ∈ es, e.ok) (hl : bs.length + esz es + 20 ≤ 140737488355328) :
    Calls Try.prog 47 #[.pointer (some ⟨w0.heap.size, 0, none⟩), v, .func (.func 48) #[] #[]] w fun e w' => e = .returned (.tuple #[]) ∧ Hid (Wb w0 w' (bs ++ enc es.length ++ es.flatMap encE)) := by
  obtain ⟨ao, cap, rfl, h1, h2, h4⟩ := hE
  have h2' : cap ≤ 9223372036854775807 := h2
  have H4 := hide h4
  have HO := hide ho
  have HL := hide hl
  have H0 := hide (wb_num h es.length ⟨by omega, by omega⟩ (by omega))
  have hN : es.length ≤ 9223372036854775807 := by omega
  clear h4 h2 ho hl h
  obtain ⟨N, hNe⟩ : ∃ N, Hid (es.length = N) := ⟨_, (rfl : _ = _)⟩
  rw [hNe.out] at h1 H4 H0 hN ⊢
  go_enter Try.func47, Try.ntmps47
  go_wp2_with fail
  refine Calls.mono H0.out ?_
  rintro e w1 ⟨rfl, H1⟩
  clear H0
  go_wp2_with fail
  go_loopw [14] (fun i wr => ∃ k : Nat, k ≤ N ∧ i = .int .i64 k ∧ Hid (Wb w0 wr (bs ++ enc N ++ (es.take k).flatMap encE))) (fun i _ => N - (intOf i).toNat)
  case atStart => exact ⟨0, Nat.zero_le _, rfl, by show Wb _ _ _; simpa using H1.out⟩
  case round =>
    obtain ⟨k, hk, rfl, HB⟩ := hrel
    by_cases hx : k < N
    · obtain ⟨g, off, rfl, hc⟩ := H4.out (by omega)
      obtain ⟨e, he⟩ : ∃ e, es[k]? = some e := ⟨_, List.getElem?_eq_getElem (by rw [hNe.out]; exact hx)⟩
      obtain ⟨ad, ld, cd, c0, c1, c2, c3, HS⟩ := hc k e he
      obtain ⟨_, hWr, hbb⟩ := HB.out
      have K : ∀ o u, w0.cell? ⟨g, o, none⟩ = some u → wr.cell? ⟨g, o, none⟩ = some u := fun o u hc => (World.cell?_of_block (w := w0) (a := ⟨g, o, none⟩) (hbb.block g (cell_lt hc))).trans hc
      have d0 := K _ _ c0
      have d1 := K _ _ c1
      have d2 := K _ _ c2
      have d3 := K _ _ c3
      have HW := hide (writeEntry_any (wb_kept HB.out ((Below.refl wr.heap.size wr).alloc (Nat.le_refl _) (.cells #[.int .i64 e.idx, .int .i64 e.term, .int .i64 e.kind, .slice ad ld cd] 90))) e (HO.out e (List.mem_of_getElem? he)) ad ld cd HS (by
        have h1 := esz_cut es k e he
        have h2 := flat_le (es.take k)
        have h3 := HL.out
        have h6 := enc_le N
        simp only [List.length_append]
        omega))
      clear hc c0 c1 c2 c3 K hWr hbb HS
      go_wp2_with fail
      refine Calls.mono HW.out ?_
      rintro x w2 ⟨rfl, H2⟩
      clear HW
      go_wp2_with fail
      go_roundw
      case rel =>
        refine ⟨k + 1, by omega, rfl, ?_⟩
        show Wb _ _ _
        rw [flat_take encE es k e he, ← List.append_assoc]
        exact H2.out
      case measure => simp [intOf]; omega
    · have hlt' : ¬ (k : Int) < (N : Int) := by omega
      go_wp2_with fail
      go_end0
      have := HB.out
      rw [List.take_of_length_le (by rw [hNe.out]; omega), List.append_assoc] at this
      exact ⟨rfl, this⟩

end Go.Proofs.Ytgknpbgepgmmmaa.Cm
namespace Go.Proofs.Ytgknpbgepgmmmaa.Cm
open Go.RowKit Bn Kp

/-- A writer with its bytes, of which there are at most M. -/
def Wk (w0 w : World) (g : Nat) (bs : List UInt8) (M : Nat) : Prop := g = w0.heap.size ∧ Wb w0 w bs ∧ bs.length ≤ M
theorem Wk.cell {w0 w : World} {bs : List UInt8} {g M : Nat} (h : Wk w0 w g bs M) {a : Addr} {u : Value} (hc : w0.cell? a = some u) : w.cell? a = some u := by
  obtain ⟨_, ⟨v, hW, hb⟩, _⟩ := h
  exact (World.cell?_of_block (hb.block a.block (World.block_lt_of_cell? w0 a hc))).trans hc
theorem wk_new (w0 : World) (g : Nat) (hg : g = w0.heap.size) : Wk w0 (w0.alloc (.cells #[.slice none 0 0] 71)) g [] 0 := ⟨hg, wb_new w0, Nat.le_refl _⟩
theorem wk_num {w0 w : World} {bs : List UInt8} {g M : Nat} (h : Wk w0 w g bs M) (n : Int) (hn : I64 n) (hM : M ≤ 1000000000000) :
    Calls Try.prog 31 #[.pointer (some ⟨g, 0, none⟩), .int .i64 n] w fun e w' => e = .returned (.tuple #[]) ∧ Hid (Wk w0 w' g (bs ++ enc n) (M + 10)) := by
  obtain ⟨rfl, h, h2⟩ := h
  refine (wb_num h n hn (by omega)).mono ?_
  rintro e w' ⟨rfl, hp⟩
  have := enc_le n
  exact ⟨rfl, rfl, hp.out, by simp only [List.length_append]; omega⟩
theorem wk_flag {w0 w : World} {bs : List UInt8} {g M : Nat} (h : Wk w0 w g bs M) (b : Bool) (hM : M ≤ 1000000000000) :
    Calls Try.prog 40 #[.pointer (some ⟨g, 0, none⟩), .bool b] w fun e w' => e = .returned (.tuple #[]) ∧ Hid (Wk w0 w' g (bs ++ fl b) (M + 10)) := by
  obtain ⟨rfl, h, h2⟩ := h
  refine (wb_flag h b (by omega)).mono ?_
  rintro e w' ⟨rfl, hp⟩
  exact ⟨rfl, rfl, hp.out, by simp only [List.length_append, fl, List.length_cons, List.length_nil]; omega⟩
theorem wk_text {w0 w : World} {bs t : List UInt8} {g M : Nat} {vt : Value} (h : Wk w0 w g bs M) (hS : Sl w0 vt t) (hM : M ≤ 1000000000000) (ht : t.length ≤ 1000000000000) :
    Calls Try.prog 32 #[.pointer (some ⟨g, 0, none⟩), vt] w fun e w' => e = .returned (.tuple #[]) ∧ Hid (Wk w0 w' g (bs ++ encT t) (M + 10 + t.length)) := by
  obtain ⟨rfl, h, h2⟩ := h
  refine (wb_text h hS (by omega)).mono ?_
  rintro e w' ⟨rfl, hp⟩
  have := enc_le t.length
  exact ⟨rfl, rfl, hp.out, by simp only [List.length_append, encT]; omega⟩
theorem wk_ids {w0 w : World} {bs : List UInt8} {g M : Nat} {v : Value} {ns : List Int} (h : Wk w0 w g bs M) (hv : IsR w0 v (cI ns)) (ho : ∀ n ∈ ns, I64 n) (hM : M ≤ 1000000000000) (hl : ns.length ≤ 1000000000000) :
    Calls Try.prog 49 #[.pointer (some ⟨g, 0, none⟩), v, .func (.func 50) #[] #[]] w fun e w' => e = .returned (.tuple #[]) ∧ Hid (Wk w0 w' g (bs ++ enc ns.length ++ ns.flatMap enc) (M + 10 + 10 * ns.length)) := by
  obtain ⟨rfl, h, h2⟩ := h
  have h3 := enc_len_le ns
  refine (writeIds_any h v ns hv ho (by omega)).mono ?_
  rintro e w' ⟨rfl, hp⟩
  have := enc_le ns.length
  exact ⟨rfl, rfl, hp.out, by simp only [List.length_append]; omega⟩
theorem wk_ents {w0 w : World} {bs : List UInt8} {g M : Nat} {v : Value} {es : List Ent} (h : Wk w0 w g bs M) (hv : Es w0 v es) (ho : ∀ e ∈ es, e.ok) (hM : M ≤ 1000000000000) (hl : esz es ≤ 1000000000000) :
    Calls Try.prog 47 #[.pointer (some ⟨g, 0, none⟩), v, .func (.func 48) #[] #[]] w fun e w' => e = .returned (.tuple #[]) ∧ Hid (Wk w0 w' g (bs ++ enc es.length ++ es.flatMap encE) (M + 10 + esz es)) := by
  obtain ⟨rfl, h, h2⟩ := h
  have h3 := flat_le es
  refine (writeEnts_any h v es hv ho (by omega)).mono ?_
  rintro e w' ⟨rfl, hp⟩
  have := enc_le es.length
  exact ⟨rfl, rfl, hp.out, by simp only [List.length_append]; omega⟩
theorem wk_rows {w0 w : World} {bs : List UInt8} {g M : Nat} {v : Value} {ts : List (List UInt8)} (h : Wk w0 w g bs M) (hv : IsR w0 v (cT ts)) (hM : M ≤ 1000000000000) (hl : (ts.flatMap encT).length ≤ 1000000000000) :
    Calls Try.prog 41 #[.pointer (some ⟨g, 0, none⟩), v, .func (.func 42) #[] #[]] w fun e w' => e = .returned (.tuple #[]) ∧ Hid (Wk w0 w' g (bs ++ enc ts.length ++ ts.flatMap encT) (M + 10 + (ts.flatMap encT).length)) := by
  obtain ⟨rfl, h, h2⟩ := h
  refine (writeRows_any h v ts hv (by omega)).mono ?_
  rintro e w' ⟨rfl, hp⟩
  have := enc_le ts.length
  exact ⟨rfl, rfl, hp.out, by simp only [List.length_append]; omega⟩
/-- The bytes that a call hands back: a row of its own. -/
def Own8 (w w' : World) (v : Value) (bs : List UInt8) : Prop := w'.ownsRow w.heap.size 5 1 v bs.length (cells8 bs) ∧ Below w.heap.size w w'
theorem wk_bytes {w w0 wk : World} {bs : List UInt8} {g M : Nat} (h : Wk w0 wk g bs M) (hM : M ≤ 100000000000000) (hb : Below w.heap.size w w0) :
    Calls Try.prog 33 #[.pointer (some ⟨g, 0, none⟩)] wk fun e w' => ∃ ao L cap, e = .returned (.slice ao L cap) ∧ Hid (Own8 w w' (.slice ao L cap) bs) := by
  obtain ⟨rfl, h, h2⟩ := h
  refine (wb_bytes h (by omega)).mono ?_
  rintro e w' ⟨ao, L, cap, rfl, hp⟩
  exact ⟨ao, L, cap, rfl, own_low hp.out.1 hb.size, hb.trans (hp.out.2.mono hb.size)⟩
theorem es_below {w w' : World} {v : Value} {es : List Ent} (h : Es w v es) (hb : Below w.heap.size w w') : Es w' v es := h.below hb

set_option maxRecDepth 4000 in
set_option maxHeartbeats 4000000 in
theorem snap_any {w : World} (s : Snp) (ac ad : Option Addr) (lc cc ld cd : Nat) (hc : IsR w (.slice ac lc cc) (cI s.conf)) (hd : Sl w (.slice ad ld cd) s.data) (ho : s.ok) (hl : s.conf.length ≤ 10000000000) (hl2 : s.data.length ≤ 10000000000) :
    Calls Try.prog 26 #[.agg #[.int .i64 s.idx, .int .i64 s.term, .slice ac lc cc, .slice ad ld cd]] w fun e w' => ∃ ao L cap, e = .returned (.slice ao L cap) ∧ Hid (Own8 w w' (.slice ao L cap) (enc s.idx ++ (enc s.term ++ (enc s.conf.length ++ (s.conf.flatMap enc ++ encT s.data))))) := by
  have HB := hide ((Below.refl _ w).alloc (Nat.le_refl _) (.cells #[.int .i64 s.idx, .int .i64 s.term, .slice ac lc cc, .slice ad ld cd] 62))
  have hx : (w.alloc (.cells #[.int .i64 s.idx, .int .i64 s.term, .slice ac lc cc, .slice ad ld cd] 62)).heap[w.heap.size]? = some (.cells #[.int .i64 s.idx, .int .i64 s.term, .slice ac lc cc, .slice ad ld cd] 62 (0, 0)) := heap_alloc_new _ _
  have HX0 := hide (show (w.alloc (.cells #[.int .i64 s.idx, .int .i64 s.term, .slice ac lc cc, .slice ad ld cd] 62)).cell? ⟨w.heap.size, 0, none⟩ = some (.int .i64 s.idx) by rw [cell_of_row _ _ 0 _ _ _ hx]; rfl)
  have HX1 := hide (show (w.alloc (.cells #[.int .i64 s.idx, .int .i64 s.term, .slice ac lc cc, .slice ad ld cd] 62)).cell? ⟨w.heap.size, 1, none⟩ = some (.int .i64 s.term) by rw [cell_of_row _ _ 1 _ _ _ hx]; rfl)
  have HX2 := hide (show (w.alloc (.cells #[.int .i64 s.idx, .int .i64 s.term, .slice ac lc cc, .slice ad ld cd] 62)).cell? ⟨w.heap.size, 2, none⟩ = some (.slice ac lc cc) by rw [cell_of_row _ _ 2 _ _ _ hx]; rfl)
  have HX3 := hide (show (w.alloc (.cells #[.int .i64 s.idx, .int .i64 s.term, .slice ac lc cc, .slice ad ld cd] 62)).cell? ⟨w.heap.size, 3, none⟩ = some (.slice ad ld cd) by rw [cell_of_row _ _ 3 _ _ _ hx]; rfl)
  have H0 := hide (wk_new (w.alloc (.cells #[.int .i64 s.idx, .int .i64 s.term, .slice ac lc cc, .slice ad ld cd] 62)) (w.heap.size + 1) (by simp))
  have HO := hide ho
  have HI := hide (hc.below HB.out)
  have HD := hide (hd.below HB.out)
  clear hx
  clear hc hd ho
  go_enter Try.func26, Try.ntmps26
  have c0 := H0.out.cell HX0.out
  go_wp2_with fail
  refine Calls.mono (wk_num H0.out _ HO.out.1 (by omega)) ?_
  rintro e w1 ⟨rfl, H1⟩
  clear H0 c0
  have c1 := H1.out.cell HX1.out
  go_wp2_with fail
  refine Calls.mono (wk_num H1.out _ HO.out.2.1 (by omega)) ?_
  rintro e w2 ⟨rfl, H2⟩
  clear H1 c1
  have c2 := H2.out.cell HX2.out
  go_wp2_with fail
  refine Calls.mono (wk_ids H2.out HI.out HO.out.2.2.1 (by omega) (by omega)) ?_
  rintro e w3 ⟨rfl, H3⟩
  clear H2 c2
  have c3 := H3.out.cell HX3.out
  go_wp2_with fail
  refine Calls.mono (wk_text H3.out HD.out (by omega) (by omega)) ?_
  rintro e w4 ⟨rfl, H4⟩
  clear H3 c3
  go_wp2_with fail
  refine Calls.mono (wk_bytes H4.out (by omega) HB.out) ?_
  rintro e we ⟨ao, L, cap, rfl, HP⟩
  go_wp2_with fail
  go_ret
  refine ⟨_, _, _, rfl, ?_⟩
  show Own8 _ _ _ _
  have hp := HP.out
  simpa only [List.nil_append, List.append_assoc] using hp

set_option maxRecDepth 4000 in
set_option maxHeartbeats 4000000 in
theorem reply_any {w : World} (err : Int) (ch : Bool) (ts : List (List UInt8)) (ar : Option Addr) (lr cr : Nat) (he : I64 err) (hr : IsR w (.slice ar lr cr) (cT ts)) (hl : (ts.flatMap encT).length ≤ 10000000000) :
    Calls Try.prog 19 #[.agg #[.int .i64 err, .bool ch, .slice ar lr cr]] w fun e w' => ∃ ao L cap, e = .returned (.slice ao L cap) ∧ Hid (Own8 w w' (.slice ao L cap) (enc err ++ (fl ch ++ (enc ts.length ++ ts.flatMap encT)))) := by
  have HB := hide ((Below.refl _ w).alloc (Nat.le_refl _) (.cells #[.int .i64 err, .bool ch, .slice ar lr cr] 44))
  have hx : (w.alloc (.cells #[.int .i64 err, .bool ch, .slice ar lr cr] 44)).heap[w.heap.size]? = some (.cells #[.int .i64 err, .bool ch, .slice ar lr cr] 44 (0, 0)) := heap_alloc_new _ _
  have HX0 := hide (show (w.alloc (.cells #[.int .i64 err, .bool ch, .slice ar lr cr] 44)).cell? ⟨w.heap.size, 0, none⟩ = some (.int .i64 err) by rw [cell_of_row _ _ 0 _ _ _ hx]; rfl)
  have HX1 := hide (show (w.alloc (.cells #[.int .i64 err, .bool ch, .slice ar lr cr] 44)).cell? ⟨w.heap.size, 1, none⟩ = some (.bool ch) by rw [cell_of_row _ _ 1 _ _ _ hx]; rfl)
  have HX2 := hide (show (w.alloc (.cells #[.int .i64 err, .bool ch, .slice ar lr cr] 44)).cell? ⟨w.heap.size, 2, none⟩ = some (.slice ar lr cr) by rw [cell_of_row _ _ 2 _ _ _ hx]; rfl)
  have H0 := hide (wk_new (w.alloc (.cells #[.int .i64 err, .bool ch, .slice ar lr cr] 44)) (w.heap.size + 1) (by simp))
  have HE := hide he
  have HR := hide (hr.below HB.out)
  clear hx
  clear hr he
  go_enter Try.func19, Try.ntmps19
  have c0 := H0.out.cell HX0.out
  go_wp2_with fail
  refine Calls.mono (wk_num H0.out _ HE.out (by omega)) ?_
  rintro e w1 ⟨rfl, H1⟩
  clear H0 c0
  have c1 := H1.out.cell HX1.out
  go_wp2_with fail
  refine Calls.mono (wk_flag H1.out _ (by omega)) ?_
  rintro e w2 ⟨rfl, H2⟩
  clear H1 c1
  have c2 := H2.out.cell HX2.out
  go_wp2_with fail
  refine Calls.mono (wk_rows H2.out HR.out (by omega) (by omega)) ?_
  rintro e w3 ⟨rfl, H3⟩
  clear H2 c2
  go_wp2_with fail
  refine Calls.mono (wk_bytes H3.out (by omega) HB.out) ?_
  rintro e we ⟨ao, L, cap, rfl, HP⟩
  go_wp2_with fail
  go_ret
  refine ⟨_, _, _, rfl, ?_⟩
  show Own8 _ _ _ _
  have hp := HP.out
  simpa only [List.nil_append, List.append_assoc] using hp

/-- A message. -/
structure Mg where
  kind : Int
  frm : Int
  dst : Int
  term : Int
  idx : Int
  lterm : Int
  commit : Int
  ents : List Ent
  ok : Bool
  hint : Int
  conf : List Int
  data : List UInt8
  off : Int
  size : Int
  ctx : Int
structure Mg.Ok (m : Mg) : Prop where
  kind : I64 m.kind
  frm : I64 m.frm
  dst : I64 m.dst
  term : I64 m.term
  idx : I64 m.idx
  lterm : I64 m.lterm
  commit : I64 m.commit
  ents : ∀ e ∈ m.ents, e.ok
  hint : I64 m.hint
  conf : ∀ n ∈ m.conf, I64 n
  off : I64 m.off
  size : I64 m.size
  ctx : I64 m.ctx
def encM (m : Mg) : List UInt8 := enc m.kind ++ (enc m.frm ++ (enc m.dst ++ (enc m.term ++ (enc m.idx ++ (enc m.lterm ++ (enc m.commit ++ (enc m.ents.length ++ (m.ents.flatMap encE ++ (fl m.ok ++ (enc m.hint ++ (enc m.conf.length ++ (m.conf.flatMap enc ++ (encT m.data ++ (enc m.off ++ (enc m.size ++ enc m.ctx)))))))))))))))

set_option maxRecDepth 4000 in
set_option maxHeartbeats 4000000 in
theorem msg_any {w : World} (m : Mg) (ae ac ad : Option Addr) (le ce lc cc ld cd : Nat) (he : Es w (.slice ae le ce) m.ents) (hc : IsR w (.slice ac lc cc) (cI m.conf)) (hd : Sl w (.slice ad ld cd) m.data) (ho : m.Ok) (hl : esz m.ents ≤ 10000000000) (hl2 : m.conf.length ≤ 10000000000) (hl3 : m.data.length ≤ 10000000000) :
    Calls Try.prog 23 #[.agg #[.int .i64 m.kind, .int .i64 m.frm, .int .i64 m.dst, .int .i64 m.term, .int .i64 m.idx, .int .i64 m.lterm, .int .i64 m.commit, .slice ae le ce, .bool m.ok, .int .i64 m.hint, .slice ac lc cc, .slice ad ld cd, .int .i64 m.off, .int .i64 m.size, .int .i64 m.ctx]] w fun e w' => ∃ ao L cap, e = .returned (.slice ao L cap) ∧ Hid (Own8 w w' (.slice ao L cap) (encM m)) := by
  have HB := hide ((Below.refl _ w).alloc (Nat.le_refl _) (.cells #[.int .i64 m.kind, .int .i64 m.frm, .int .i64 m.dst, .int .i64 m.term, .int .i64 m.idx, .int .i64 m.lterm, .int .i64 m.commit, .slice ae le ce, .bool m.ok, .int .i64 m.hint, .slice ac lc cc, .slice ad ld cd, .int .i64 m.off, .int .i64 m.size, .int .i64 m.ctx] 54))
  have hx : (w.alloc (.cells #[.int .i64 m.kind, .int .i64 m.frm, .int .i64 m.dst, .int .i64 m.term, .int .i64 m.idx, .int .i64 m.lterm, .int .i64 m.commit, .slice ae le ce, .bool m.ok, .int .i64 m.hint, .slice ac lc cc, .slice ad ld cd, .int .i64 m.off, .int .i64 m.size, .int .i64 m.ctx] 54)).heap[w.heap.size]? = some (.cells #[.int .i64 m.kind, .int .i64 m.frm, .int .i64 m.dst, .int .i64 m.term, .int .i64 m.idx, .int .i64 m.lterm, .int .i64 m.commit, .slice ae le ce, .bool m.ok, .int .i64 m.hint, .slice ac lc cc, .slice ad ld cd, .int .i64 m.off, .int .i64 m.size, .int .i64 m.ctx] 54 (0, 0)) := heap_alloc_new _ _
  have HX0 := hide (show (w.alloc (.cells #[.int .i64 m.kind, .int .i64 m.frm, .int .i64 m.dst, .int .i64 m.term, .int .i64 m.idx, .int .i64 m.lterm, .int .i64 m.commit, .slice ae le ce, .bool m.ok, .int .i64 m.hint, .slice ac lc cc, .slice ad ld cd, .int .i64 m.off, .int .i64 m.size, .int .i64 m.ctx] 54)).cell? ⟨w.heap.size, 0, none⟩ = some (.int .i64 m.kind) by rw [cell_of_row _ _ 0 _ _ _ hx]; rfl)
  have HX1 := hide (show (w.alloc (.cells #[.int .i64 m.kind, .int .i64 m.frm, .int .i64 m.dst, .int .i64 m.term, .int .i64 m.idx, .int .i64 m.lterm, .int .i64 m.commit, .slice ae le ce, .bool m.ok, .int .i64 m.hint, .slice ac lc cc, .slice ad ld cd, .int .i64 m.off, .int .i64 m.size, .int .i64 m.ctx] 54)).cell? ⟨w.heap.size, 1, none⟩ = some (.int .i64 m.frm) by rw [cell_of_row _ _ 1 _ _ _ hx]; rfl)
  have HX2 := hide (show (w.alloc (.cells #[.int .i64 m.kind, .int .i64 m.frm, .int .i64 m.dst, .int .i64 m.term, .int .i64 m.idx, .int .i64 m.lterm, .int .i64 m.commit, .slice ae le ce, .bool m.ok, .int .i64 m.hint, .slice ac lc cc, .slice ad ld cd, .int .i64 m.off, .int .i64 m.size, .int .i64 m.ctx] 54)).cell? ⟨w.heap.size, 2, none⟩ = some (.int .i64 m.dst) by rw [cell_of_row _ _ 2 _ _ _ hx]; rfl)
  have HX3 := hide (show (w.alloc (.cells #[.int .i64 m.kind, .int .i64 m.frm, .int .i64 m.dst, .int .i64 m.term, .int .i64 m.idx, .int .i64 m.lterm, .int .i64 m.commit, .slice ae le ce, .bool m.ok, .int .i64 m.hint, .slice ac lc cc, .slice ad ld cd, .int .i64 m.off, .int .i64 m.size, .int .i64 m.ctx] 54)).cell? ⟨w.heap.size, 3, none⟩ = some (.int .i64 m.term) by rw [cell_of_row _ _ 3 _ _ _ hx]; rfl)
  have HX4 := hide (show (w.alloc (.cells #[.int .i64 m.kind, .int .i64 m.frm, .int .i64 m.dst, .int .i64 m.term, .int .i64 m.idx, .int .i64 m.lterm, .int .i64 m.commit, .slice ae le ce, .bool m.ok, .int .i64 m.hint, .slice ac lc cc, .slice ad ld cd, .int .i64 m.off, .int .i64 m.size, .int .i64 m.ctx] 54)).cell? ⟨w.heap.size, 4, none⟩ = some (.int .i64 m.idx) by rw [cell_of_row _ _ 4 _ _ _ hx]; rfl)
  have HX5 := hide (show (w.alloc (.cells #[.int .i64 m.kind, .int .i64 m.frm, .int .i64 m.dst, .int .i64 m.term, .int .i64 m.idx, .int .i64 m.lterm, .int .i64 m.commit, .slice ae le ce, .bool m.ok, .int .i64 m.hint, .slice ac lc cc, .slice ad ld cd, .int .i64 m.off, .int .i64 m.size, .int .i64 m.ctx] 54)).cell? ⟨w.heap.size, 5, none⟩ = some (.int .i64 m.lterm) by rw [cell_of_row _ _ 5 _ _ _ hx]; rfl)
  have HX6 := hide (show (w.alloc (.cells #[.int .i64 m.kind, .int .i64 m.frm, .int .i64 m.dst, .int .i64 m.term, .int .i64 m.idx, .int .i64 m.lterm, .int .i64 m.commit, .slice ae le ce, .bool m.ok, .int .i64 m.hint, .slice ac lc cc, .slice ad ld cd, .int .i64 m.off, .int .i64 m.size, .int .i64 m.ctx] 54)).cell? ⟨w.heap.size, 6, none⟩ = some (.int .i64 m.commit) by rw [cell_of_row _ _ 6 _ _ _ hx]; rfl)
  have HX7 := hide (show (w.alloc (.cells #[.int .i64 m.kind, .int .i64 m.frm, .int .i64 m.dst, .int .i64 m.term, .int .i64 m.idx, .int .i64 m.lterm, .int .i64 m.commit, .slice ae le ce, .bool m.ok, .int .i64 m.hint, .slice ac lc cc, .slice ad ld cd, .int .i64 m.off, .int .i64 m.size, .int .i64 m.ctx] 54)).cell? ⟨w.heap.size, 7, none⟩ = some (.slice ae le ce) by rw [cell_of_row _ _ 7 _ _ _ hx]; rfl)
  have HX8 := hide (show (w.alloc (.cells #[.int .i64 m.kind, .int .i64 m.frm, .int .i64 m.dst, .int .i64 m.term, .int .i64 m.idx, .int .i64 m.lterm, .int .i64 m.commit, .slice ae le ce, .bool m.ok, .int .i64 m.hint, .slice ac lc cc, .slice ad ld cd, .int .i64 m.off, .int .i64 m.size, .int .i64 m.ctx] 54)).cell? ⟨w.heap.size, 8, none⟩ = some (.bool m.ok) by rw [cell_of_row _ _ 8 _ _ _ hx]; rfl)
  have HX9 := hide (show (w.alloc (.cells #[.int .i64 m.kind, .int .i64 m.frm, .int .i64 m.dst, .int .i64 m.term, .int .i64 m.idx, .int .i64 m.lterm, .int .i64 m.commit, .slice ae le ce, .bool m.ok, .int .i64 m.hint, .slice ac lc cc, .slice ad ld cd, .int .i64 m.off, .int .i64 m.size, .int .i64 m.ctx] 54)).cell? ⟨w.heap.size, 9, none⟩ = some (.int .i64 m.hint) by rw [cell_of_row _ _ 9 _ _ _ hx]; rfl)
  have HX10 := hide (show (w.alloc (.cells #[.int .i64 m.kind, .int .i64 m.frm, .int .i64 m.dst, .int .i64 m.term, .int .i64 m.idx, .int .i64 m.lterm, .int .i64 m.commit, .slice ae le ce, .bool m.ok, .int .i64 m.hint, .slice ac lc cc, .slice ad ld cd, .int .i64 m.off, .int .i64 m.size, .int .i64 m.ctx] 54)).cell? ⟨w.heap.size, 10, none⟩ = some (.slice ac lc cc) by rw [cell_of_row _ _ 10 _ _ _ hx]; rfl)
  have HX11 := hide (show (w.alloc (.cells #[.int .i64 m.kind, .int .i64 m.frm, .int .i64 m.dst, .int .i64 m.term, .int .i64 m.idx, .int .i64 m.lterm, .int .i64 m.commit, .slice ae le ce, .bool m.ok, .int .i64 m.hint, .slice ac lc cc, .slice ad ld cd, .int .i64 m.off, .int .i64 m.size, .int .i64 m.ctx] 54)).cell? ⟨w.heap.size, 11, none⟩ = some (.slice ad ld cd) by rw [cell_of_row _ _ 11 _ _ _ hx]; rfl)
  have HX12 := hide (show (w.alloc (.cells #[.int .i64 m.kind, .int .i64 m.frm, .int .i64 m.dst, .int .i64 m.term, .int .i64 m.idx, .int .i64 m.lterm, .int .i64 m.commit, .slice ae le ce, .bool m.ok, .int .i64 m.hint, .slice ac lc cc, .slice ad ld cd, .int .i64 m.off, .int .i64 m.size, .int .i64 m.ctx] 54)).cell? ⟨w.heap.size, 12, none⟩ = some (.int .i64 m.off) by rw [cell_of_row _ _ 12 _ _ _ hx]; rfl)
  have HX13 := hide (show (w.alloc (.cells #[.int .i64 m.kind, .int .i64 m.frm, .int .i64 m.dst, .int .i64 m.term, .int .i64 m.idx, .int .i64 m.lterm, .int .i64 m.commit, .slice ae le ce, .bool m.ok, .int .i64 m.hint, .slice ac lc cc, .slice ad ld cd, .int .i64 m.off, .int .i64 m.size, .int .i64 m.ctx] 54)).cell? ⟨w.heap.size, 13, none⟩ = some (.int .i64 m.size) by rw [cell_of_row _ _ 13 _ _ _ hx]; rfl)
  have HX14 := hide (show (w.alloc (.cells #[.int .i64 m.kind, .int .i64 m.frm, .int .i64 m.dst, .int .i64 m.term, .int .i64 m.idx, .int .i64 m.lterm, .int .i64 m.commit, .slice ae le ce, .bool m.ok, .int .i64 m.hint, .slice ac lc cc, .slice ad ld cd, .int .i64 m.off, .int .i64 m.size, .int .i64 m.ctx] 54)).cell? ⟨w.heap.size, 14, none⟩ = some (.int .i64 m.ctx) by rw [cell_of_row _ _ 14 _ _ _ hx]; rfl)
  have H0 := hide (wk_new (w.alloc (.cells #[.int .i64 m.kind, .int .i64 m.frm, .int .i64 m.dst, .int .i64 m.term, .int .i64 m.idx, .int .i64 m.lterm, .int .i64 m.commit, .slice ae le ce, .bool m.ok, .int .i64 m.hint, .slice ac lc cc, .slice ad ld cd, .int .i64 m.off, .int .i64 m.size, .int .i64 m.ctx] 54)) (w.heap.size + 1) (by simp))
  have HO := hide ho
  have HEs := hide (he.below HB.out)
  have HI := hide (hc.below HB.out)
  have HD := hide (hd.below HB.out)
  clear hx
  clear hc hd he ho
  go_enter Try.func23, Try.ntmps23
  have c0 := H0.out.cell HX0.out
  go_wp2_with fail
  refine Calls.mono (wk_num H0.out _ HO.out.kind (by omega)) ?_
  rintro e w1 ⟨rfl, H1⟩
  clear H0 c0
  have c1 := H1.out.cell HX1.out
  go_wp2_with fail
  refine Calls.mono (wk_num H1.out _ HO.out.frm (by omega)) ?_
  rintro e w2 ⟨rfl, H2⟩
  clear H1 c1
  have c2 := H2.out.cell HX2.out
  go_wp2_with fail
  refine Calls.mono (wk_num H2.out _ HO.out.dst (by omega)) ?_
  rintro e w3 ⟨rfl, H3⟩
  clear H2 c2
  have c3 := H3.out.cell HX3.out
  go_wp2_with fail
  refine Calls.mono (wk_num H3.out _ HO.out.term (by omega)) ?_
  rintro e w4 ⟨rfl, H4⟩
  clear H3 c3
  have c4 := H4.out.cell HX4.out
  go_wp2_with fail
  refine Calls.mono (wk_num H4.out _ HO.out.idx (by omega)) ?_
  rintro e w5 ⟨rfl, H5⟩
  clear H4 c4
  have c5 := H5.out.cell HX5.out
  go_wp2_with fail
  refine Calls.mono (wk_num H5.out _ HO.out.lterm (by omega)) ?_
  rintro e w6 ⟨rfl, H6⟩
  clear H5 c5
  have c6 := H6.out.cell HX6.out
  go_wp2_with fail
  refine Calls.mono (wk_num H6.out _ HO.out.commit (by omega)) ?_
  rintro e w7 ⟨rfl, H7⟩
  clear H6 c6
  have c7 := H7.out.cell HX7.out
  go_wp2_with fail
  refine Calls.mono (wk_ents H7.out HEs.out HO.out.ents (by omega) (by omega)) ?_
  rintro e w8 ⟨rfl, H8⟩
  clear H7 c7
  have c8 := H8.out.cell HX8.out
  go_wp2_with fail
  refine Calls.mono (wk_flag H8.out _ (by omega)) ?_
  rintro e w9 ⟨rfl, H9⟩
  clear H8 c8
  have c9 := H9.out.cell HX9.out
  go_wp2_with fail
  refine Calls.mono (wk_num H9.out _ HO.out.hint (by omega)) ?_
  rintro e w10 ⟨rfl, H10⟩
  clear H9 c9
  have c10 := H10.out.cell HX10.out
  go_wp2_with fail
  refine Calls.mono (wk_ids H10.out HI.out HO.out.conf (by omega) (by omega)) ?_
  rintro e w11 ⟨rfl, H11⟩
  clear H10 c10
  have c11 := H11.out.cell HX11.out
  go_wp2_with fail
  refine Calls.mono (wk_text H11.out HD.out (by omega) (by omega)) ?_
  rintro e w12 ⟨rfl, H12⟩
  clear H11 c11
  have c12 := H12.out.cell HX12.out
  go_wp2_with fail
  refine Calls.mono (wk_num H12.out _ HO.out.off (by omega)) ?_
  rintro e w13 ⟨rfl, H13⟩
  clear H12 c12
  have c13 := H13.out.cell HX13.out
  go_wp2_with fail
  refine Calls.mono (wk_num H13.out _ HO.out.size (by omega)) ?_
  rintro e w14 ⟨rfl, H14⟩
  clear H13 c13
  have c14 := H14.out.cell HX14.out
  go_wp2_with fail
  refine Calls.mono (wk_num H14.out _ HO.out.ctx (by omega)) ?_
  rintro e w15 ⟨rfl, H15⟩
  clear H14 c14
  go_wp2_with fail
  refine Calls.mono (wk_bytes H15.out (by omega) HB.out) ?_
  rintro e we ⟨ao, L, cap, rfl, HP⟩
  go_wp2_with fail
  go_ret
  refine ⟨_, _, _, rfl, ?_⟩
  show Own8 _ _ _ _
  have hp := HP.out
  simpa only [encM, List.nil_append, List.append_assoc] using hp

end Go.Proofs.Ytgknpbgepgmmmaa.Cm
namespace Go.Proofs.Ytgknpbgepgmmmaa.Cm
open Go.RowKit Bn Kp

/-- A result that lies in a cell, an error beside it. -/
theorem ret_cell {fn : Func} {p u : Tmp} {ty : TypeId} (h : fn.results = #[.cell p ty, .tmp u]) (tmps : Array Value) (w : World) (g : Nat) (t : TypeId) (cs : Array Value) {d}
    (hp : tmps.getD p undef = .pointer (some ⟨g, 0, none⟩)) (hg : w.heap[g]? = some (.cells cs t (0, 0)))
    (hu : Try.prog.underlying ty = some (.struct d)) (hi : (Try.prog.info? ty).map (·.size) = some cs.size) :
    (results fn tmps).run Try.prog w = .ok (.tuple #[.agg cs, tmps.getD u undef]) w := by
  rw [results_cell_tmp h, hp]
  have hl := run_loadVar_row (P := Try.prog) w g t ty cs (0, 0) _ hg hu rfl hi
  have ha : (asAddr (.pointer (some ⟨g, 0, none⟩))).run Try.prog w = .ok ⟨g, 0, none⟩ w := rfl
  rw [ha]
  simp only [Result.andThen, hl]

theorem cell_alloc {w : World} {a : Addr} {v : Value} (h : w.cell? a = some v) : ∀ o, (w.alloc o).cell? a = some v := fun o => (World.cell?_of_block (((Below.refl w.heap.size w).alloc (Nat.le_refl _) o).block a.block (World.block_lt_of_cell? w a h))).trans h
theorem heap_alloc_kept {w : World} {g : Nat} {x : Obj} (h : w.heap[g]? = some x) (o : Obj) : (w.alloc o).heap[g]? = some x := by
  rw [((Below.refl w.heap.size w).alloc (Nat.le_refl _) o).block g (Array.getElem?_eq_some_iff.1 h).1]
  exact h
/-- Is all that was read one that is written? -/
def okB (st : R) (wr : Bool) : Bool := st == some [] && !wr
def okC (st : R) (wr : Bool) (x z : Array Value) : Array Value := if okB st wr then x else z
def okN (st : R) (wr : Bool) : Int := if okB st wr then 0 else 3
theorem okB_off {st : R} {wr : Bool} (h : (st.isSome && !wr) = false) : okB st wr = false := by
  cases st with
  | none => rfl
  | some l => cases wr <;> simp_all [okB]
theorem okB_more {l : List UInt8} (h : 0 < l.length) : okB (some l) false = false := by
  cases l with
  | nil => simp at h
  | cons a r => rfl
theorem sz_Cmd : (Try.prog.info? 23).map (·.size) = some 4 := by kernel_rfl
theorem set_Cmd {W : World} {g b : Nat} {x0 x1 x2 x3 : Value} (y0 y1 y2 y3 : Value) (h : W.heap[g]? = some (.cells #[x0, x1, x2, x3] 23 (0, 0))) (hb : b ≤ g) :
    ((((W.setCell ⟨g, 0, none⟩ y0).setCell ⟨g, 1, none⟩ y1).setCell ⟨g, 2, none⟩ y2).setCell ⟨g, 3, none⟩ y3).heap[g]? = some (.cells #[y0, y1, y2, y3] 23 (0, 0)) ∧ Below b W ((((W.setCell ⟨g, 0, none⟩ y0).setCell ⟨g, 1, none⟩ y1).setCell ⟨g, 2, none⟩ y2).setCell ⟨g, 3, none⟩ y3) := by
  refine ⟨?_, ?_⟩
  · have h0 := h
    have h1 : (W.setCell ⟨g, 0, none⟩ y0).heap[g]? = some (.cells #[y0, x1, x2, x3] 23 (0, 0)) := heap_setCell_same _ g 0 _ 23 y0 h0
    have h2 : ((W.setCell ⟨g, 0, none⟩ y0).setCell ⟨g, 1, none⟩ y1).heap[g]? = some (.cells #[y0, y1, x2, x3] 23 (0, 0)) := heap_setCell_same _ g 1 _ 23 y1 h1
    have h3 : (((W.setCell ⟨g, 0, none⟩ y0).setCell ⟨g, 1, none⟩ y1).setCell ⟨g, 2, none⟩ y2).heap[g]? = some (.cells #[y0, y1, y2, x3] 23 (0, 0)) := heap_setCell_same _ g 2 _ 23 y2 h2
    have h4 : ((((W.setCell ⟨g, 0, none⟩ y0).setCell ⟨g, 1, none⟩ y1).setCell ⟨g, 2, none⟩ y2).setCell ⟨g, 3, none⟩ y3).heap[g]? = some (.cells #[y0, y1, y2, y3] 23 (0, 0)) := heap_setCell_same _ g 3 _ 23 y3 h3
    exact h4
  · have k0 := Below.refl b W
    have k1 := k0.setCell (p := ⟨g, 0, none⟩) hb y0
    have k2 := k1.setCell (p := ⟨g, 1, none⟩) hb y1
    have k3 := k2.setCell (p := ⟨g, 2, none⟩) hb y2
    have k4 := k3.setCell (p := ⟨g, 3, none⟩) hb y3
    exact k4
theorem cells_Cmd {W : World} {g : Nat} {x0 x1 x2 x3 : Value} (h : W.heap[g]? = some (.cells #[x0, x1, x2, x3] 23 (0, 0))) :
    W.cell? ⟨g, 0, none⟩ = some x0 ∧ W.cell? ⟨g, 1, none⟩ = some x1 ∧ W.cell? ⟨g, 2, none⟩ = some x2 ∧ W.cell? ⟨g, 3, none⟩ = some x3 := by
  refine ⟨?_, ?_, ?_, ?_⟩ <;> rw [cell_of_row W g _ _ 23 (0, 0) h] <;> rfl
set_option maxRecDepth 4000 in
set_option maxHeartbeats 4000000 in
theorem taken_Cmd {w : World} {b A B : Nat} {st : R} {wr : Bool} (h : Cr w b A B st wr) (n0 : Int) (n1 : Int) (n2 : Int) (s3 : ByteArray) :
    Calls Try.prog 38 #[.pointer (some ⟨A, 0, none⟩), .agg #[.int .i64 n0, .int .i64 n1, .int .i64 n2, .string s3]] w fun e w' => e = .returned (.tuple #[.agg (okC st wr #[.int .i64 n0, .int .i64 n1, .int .i64 n2, .string s3] #[.int .i64 0, .int .i64 0, .int .i64 0, .string ⟨#[]⟩]), .int .i64 (okN st wr)]) ∧ Hid (Below w.heap.size w w') := by
  obtain ⟨X, hX⟩ : ∃ X, Hid (X = (w.alloc (.cells #[.int .i64 n0, .int .i64 n1, .int .i64 n2, .string s3] 23)).alloc (.cells #[.int .i64 0, .int .i64 0, .int .i64 0, .string ⟨#[]⟩] 23)) := ⟨_, (rfl : _ = _)⟩
  have HBX : Hid (Below w.heap.size w X) := by rw [hX.out]; exact ((Below.refl _ w).alloc (Nat.le_refl _) _).alloc (by simp) _
  have hb1 : X.heap[w.heap.size]? = some (.cells #[.int .i64 n0, .int .i64 n1, .int .i64 n2, .string s3] 23 (0, 0)) := by
    rw [hX.out]
    exact (((Below.refl _ _).alloc (Nat.le_refl _) _).block w.heap.size (by simp)).trans (heap_alloc_new _ _)
  have hb2 : X.heap[w.heap.size + 1]? = some (.cells #[.int .i64 0, .int .i64 0, .int .i64 0, .string ⟨#[]⟩] 23 (0, 0)) := by rw [hX.out]; exact heap_alloc2_new _ _ _
  have HC := hide (h.kept HBX.out)
  have HG := hide (goesOn_any HC.out)
  have HL := hide (left_any B st X HC.out.q.rd)
  obtain ⟨k0, k1, -, -⟩ := HC.out.cells
  obtain ⟨pc0, pc1, pc2, pc3⟩ := cells_Cmd hb1
  obtain ⟨qc0, qc1, qc2, qc3⟩ := cells_Cmd hb2
  have qf := fun i => frozen_of_row X (w.heap.size + 1) i _ 23 hb2
  have HB2 := hide hb2
  have qfa := fun o i => frozen_of_row (X.alloc o) (w.heap.size + 1) i _ 23 (heap_alloc_kept hb2 o)
  have hsz : X.heap.size = w.heap.size + 2 := by rw [hX.out]; simp
  have HSZ := hide hsz
  have qa0 := cell_alloc qc0
  have qa1 := cell_alloc qc1
  have qa2 := cell_alloc qc2
  have qa3 := cell_alloc qc3
  clear hb1 hb2 h hsz
  go_enter Try.func38, Try.ntmps38
  go_upto_region 1 with fail
  rw [← hX.out]
  cases hg : (st.isSome && !wr)
  · rw [hg] at HG
    have HO := hide (okB_off hg)
    clear hg
    go_wp2_with fail
    refine Calls.mono HG.out ?_
    rintro e w4 ⟨rfl, hw4⟩
    have hw4' := hw4.symm
    subst hw4'
    clear hw4
    go_wp2_with fail
    refine bodyPost_ret (ret_cell rfl _ _ (w.heap.size + 1) 23 _ rfl (set_Cmd (b := w.heap.size) _ _ _ _ (heap_alloc_kept HB2.out _) (by omega)).1 Try.underlying23 sz_Cmd) rfl ?_
    rw [okC, okN, HO.out]
    exact ⟨rfl, (HBX.out.alloc HBX.out.size _).trans (set_Cmd (b := w.heap.size) _ _ _ _ (heap_alloc_kept HB2.out _) (by omega)).2⟩
  · rw [hg] at HG
    obtain ⟨l, rfl, rfl⟩ : ∃ l, st = some l ∧ wr = false := by
      cases st with
      | none => simp at hg
      | some l => cases wr <;> simp at hg ⊢
    clear hg
    by_cases h0 : 0 < l.length
    · have HO := hide (okB_more h0)
      have h0' : (0 : Int) < ((Option.getD (some l) []).length : Nat) := by simp only [Option.getD_some]; omega
      clear h0
      obtain ⟨N, hN⟩ : ∃ N : Nat, Hid ((Option.getD (some l) []).length = N) := ⟨_, (rfl : _ = _)⟩
      rw [hN.out] at HL h0'
      go_wp2_with fail
      refine Calls.mono HG.out ?_
      rintro e w4 ⟨rfl, hw4⟩
      have hw4' := hw4.symm
      subst hw4'
      clear hw4
      go_wp2_with fail
      refine Calls.mono HL.out ?_
      rintro e w4 ⟨rfl, hw4⟩
      have hw4' := hw4.symm
      subst hw4'
      clear hw4
      go_wp2_with fail
      refine bodyPost_ret (ret_cell rfl _ _ (w.heap.size + 1) 23 _ rfl (set_Cmd (b := w.heap.size) _ _ _ _ (heap_alloc_kept HB2.out _) (by omega)).1 Try.underlying23 sz_Cmd) rfl ?_
      rw [okC, okN, HO.out]
      exact ⟨rfl, (HBX.out.alloc HBX.out.size _).trans (set_Cmd (b := w.heap.size) _ _ _ _ (heap_alloc_kept HB2.out _) (by omega)).2⟩
    · have hl : l = [] := List.eq_nil_of_length_eq_zero (by omega)
      subst hl
      clear h0
      have HO : Hid (okB (some []) false = true) := (rfl : _ = _)
      have HL0 : Hid (Calls Try.prog 68 #[.pointer (some ⟨B, 0, none⟩)] X fun e w' => e = .returned (.int .i64 (0 : Int)) ∧ w' = X) := HL.out
      clear HL
      go_wp2_with fail
      refine Calls.mono HG.out ?_
      rintro e w4 ⟨rfl, hw4⟩
      have hw4' := hw4.symm
      subst hw4'
      clear hw4
      go_wp2_with fail
      refine Calls.mono HL0.out ?_
      rintro e w4 ⟨rfl, hw4⟩
      have hw4' := hw4.symm
      subst hw4'
      clear hw4
      go_wp2_with fail
      refine bodyPost_ret (ret_cell rfl _ _ (w.heap.size + 1) 23 _ rfl (set_Cmd (b := w.heap.size) _ _ _ _ HB2.out (by omega)).1 Try.underlying23 sz_Cmd) rfl ?_
      rw [okC, okN, HO.out]
      exact ⟨rfl, HBX.out.trans (set_Cmd (b := w.heap.size) _ _ _ _ HB2.out (by omega)).2⟩

theorem sz_Rep : (Try.prog.info? 44).map (·.size) = some 3 := by kernel_rfl
theorem set_Rep {W : World} {g b : Nat} {x0 x1 x2 : Value} (y0 y1 y2 : Value) (h : W.heap[g]? = some (.cells #[x0, x1, x2] 44 (0, 0))) (hb : b ≤ g) :
    (((W.setCell ⟨g, 0, none⟩ y0).setCell ⟨g, 1, none⟩ y1).setCell ⟨g, 2, none⟩ y2).heap[g]? = some (.cells #[y0, y1, y2] 44 (0, 0)) ∧ Below b W (((W.setCell ⟨g, 0, none⟩ y0).setCell ⟨g, 1, none⟩ y1).setCell ⟨g, 2, none⟩ y2) := by
  refine ⟨?_, ?_⟩
  · have h0 := h
    have h1 : (W.setCell ⟨g, 0, none⟩ y0).heap[g]? = some (.cells #[y0, x1, x2] 44 (0, 0)) := heap_setCell_same _ g 0 _ 44 y0 h0
    have h2 : ((W.setCell ⟨g, 0, none⟩ y0).setCell ⟨g, 1, none⟩ y1).heap[g]? = some (.cells #[y0, y1, x2] 44 (0, 0)) := heap_setCell_same _ g 1 _ 44 y1 h1
    have h3 : (((W.setCell ⟨g, 0, none⟩ y0).setCell ⟨g, 1, none⟩ y1).setCell ⟨g, 2, none⟩ y2).heap[g]? = some (.cells #[y0, y1, y2] 44 (0, 0)) := heap_setCell_same _ g 2 _ 44 y2 h2
    exact h3
  · have k0 := Below.refl b W
    have k1 := k0.setCell (p := ⟨g, 0, none⟩) hb y0
    have k2 := k1.setCell (p := ⟨g, 1, none⟩) hb y1
    have k3 := k2.setCell (p := ⟨g, 2, none⟩) hb y2
    exact k3
theorem cells_Rep {W : World} {g : Nat} {x0 x1 x2 : Value} (h : W.heap[g]? = some (.cells #[x0, x1, x2] 44 (0, 0))) :
    W.cell? ⟨g, 0, none⟩ = some x0 ∧ W.cell? ⟨g, 1, none⟩ = some x1 ∧ W.cell? ⟨g, 2, none⟩ = some x2 := by
  refine ⟨?_, ?_, ?_⟩ <;> rw [cell_of_row W g _ _ 44 (0, 0) h] <;> rfl
set_option maxRecDepth 4000 in
set_option maxHeartbeats 4000000 in
theorem taken_Rep {w : World} {b A B : Nat} {st : R} {wr : Bool} (h : Cr w b A B st wr) (n0 : Int) (t1 : Bool) (a2 : Option Addr) (l2 e2 : Nat) :
    Calls Try.prog 46 #[.pointer (some ⟨A, 0, none⟩), .agg #[.int .i64 n0, .bool t1, .slice a2 l2 e2]] w fun e w' => e = .returned (.tuple #[.agg (okC st wr #[.int .i64 n0, .bool t1, .slice a2 l2 e2] #[.int .i64 0, .bool false, .slice none 0 0]), .int .i64 (okN st wr)]) ∧ Hid (Below w.heap.size w w') := by
  obtain ⟨X, hX⟩ : ∃ X, Hid (X = (w.alloc (.cells #[.int .i64 n0, .bool t1, .slice a2 l2 e2] 44)).alloc (.cells #[.int .i64 0, .bool false, .slice none 0 0] 44)) := ⟨_, (rfl : _ = _)⟩
  have HBX : Hid (Below w.heap.size w X) := by rw [hX.out]; exact ((Below.refl _ w).alloc (Nat.le_refl _) _).alloc (by simp) _
  have hb1 : X.heap[w.heap.size]? = some (.cells #[.int .i64 n0, .bool t1, .slice a2 l2 e2] 44 (0, 0)) := by
    rw [hX.out]
    exact (((Below.refl _ _).alloc (Nat.le_refl _) _).block w.heap.size (by simp)).trans (heap_alloc_new _ _)
  have hb2 : X.heap[w.heap.size + 1]? = some (.cells #[.int .i64 0, .bool false, .slice none 0 0] 44 (0, 0)) := by rw [hX.out]; exact heap_alloc2_new _ _ _
  have HC := hide (h.kept HBX.out)
  have HG := hide (goesOn_any HC.out)
  have HL := hide (left_any B st X HC.out.q.rd)
  obtain ⟨k0, k1, -, -⟩ := HC.out.cells
  obtain ⟨pc0, pc1, pc2⟩ := cells_Rep hb1
  obtain ⟨qc0, qc1, qc2⟩ := cells_Rep hb2
  have qf := fun i => frozen_of_row X (w.heap.size + 1) i _ 44 hb2
  have HB2 := hide hb2
  have qfa := fun o i => frozen_of_row (X.alloc o) (w.heap.size + 1) i _ 44 (heap_alloc_kept hb2 o)
  have hsz : X.heap.size = w.heap.size + 2 := by rw [hX.out]; simp
  have HSZ := hide hsz
  have qa0 := cell_alloc qc0
  have qa1 := cell_alloc qc1
  have qa2 := cell_alloc qc2
  clear hb1 hb2 h hsz
  go_enter Try.func46, Try.ntmps46
  go_upto_region 1 with fail
  rw [← hX.out]
  cases hg : (st.isSome && !wr)
  · rw [hg] at HG
    have HO := hide (okB_off hg)
    clear hg
    go_wp2_with fail
    refine Calls.mono HG.out ?_
    rintro e w4 ⟨rfl, hw4⟩
    have hw4' := hw4.symm
    subst hw4'
    clear hw4
    go_wp2_with fail
    refine bodyPost_ret (ret_cell rfl _ _ (w.heap.size + 1) 44 _ rfl (set_Rep (b := w.heap.size) _ _ _ (heap_alloc_kept HB2.out _) (by omega)).1 Try.underlying44 sz_Rep) rfl ?_
    rw [okC, okN, HO.out]
    exact ⟨rfl, (HBX.out.alloc HBX.out.size _).trans (set_Rep (b := w.heap.size) _ _ _ (heap_alloc_kept HB2.out _) (by omega)).2⟩
  · rw [hg] at HG
    obtain ⟨l, rfl, rfl⟩ : ∃ l, st = some l ∧ wr = false := by
      cases st with
      | none => simp at hg
      | some l => cases wr <;> simp at hg ⊢
    clear hg
    by_cases h0 : 0 < l.length
    · have HO := hide (okB_more h0)
      have h0' : (0 : Int) < ((Option.getD (some l) []).length : Nat) := by simp only [Option.getD_some]; omega
      clear h0
      obtain ⟨N, hN⟩ : ∃ N : Nat, Hid ((Option.getD (some l) []).length = N) := ⟨_, (rfl : _ = _)⟩
      rw [hN.out] at HL h0'
      go_wp2_with fail
      refine Calls.mono HG.out ?_
      rintro e w4 ⟨rfl, hw4⟩
      have hw4' := hw4.symm
      subst hw4'
      clear hw4
      go_wp2_with fail
      refine Calls.mono HL.out ?_
      rintro e w4 ⟨rfl, hw4⟩
      have hw4' := hw4.symm
      subst hw4'
      clear hw4
      go_wp2_with fail
      refine bodyPost_ret (ret_cell rfl _ _ (w.heap.size + 1) 44 _ rfl (set_Rep (b := w.heap.size) _ _ _ (heap_alloc_kept HB2.out _) (by omega)).1 Try.underlying44 sz_Rep) rfl ?_
      rw [okC, okN, HO.out]
      exact ⟨rfl, (HBX.out.alloc HBX.out.size _).trans (set_Rep (b := w.heap.size) _ _ _ (heap_alloc_kept HB2.out _) (by omega)).2⟩
    · have hl : l = [] := List.eq_nil_of_length_eq_zero (by omega)
      subst hl
      clear h0
      have HO : Hid (okB (some []) false = true) := (rfl : _ = _)
      have HL0 : Hid (Calls Try.prog 68 #[.pointer (some ⟨B, 0, none⟩)] X fun e w' => e = .returned (.int .i64 (0 : Int)) ∧ w' = X) := HL.out
      clear HL
      go_wp2_with fail
      refine Calls.mono HG.out ?_
      rintro e w4 ⟨rfl, hw4⟩
      have hw4' := hw4.symm
      subst hw4'
      clear hw4
      go_wp2_with fail
      refine Calls.mono HL0.out ?_
      rintro e w4 ⟨rfl, hw4⟩
      have hw4' := hw4.symm
      subst hw4'
      clear hw4
      go_wp2_with fail
      refine bodyPost_ret (ret_cell rfl _ _ (w.heap.size + 1) 44 _ rfl (set_Rep (b := w.heap.size) _ _ _ HB2.out (by omega)).1 Try.underlying44 sz_Rep) rfl ?_
      rw [okC, okN, HO.out]
      exact ⟨rfl, HBX.out.trans (set_Rep (b := w.heap.size) _ _ _ HB2.out (by omega)).2⟩

theorem sz_Snp : (Try.prog.info? 62).map (·.size) = some 4 := by kernel_rfl
theorem set_Snp {W : World} {g b : Nat} {x0 x1 x2 x3 : Value} (y0 y1 y2 y3 : Value) (h : W.heap[g]? = some (.cells #[x0, x1, x2, x3] 62 (0, 0))) (hb : b ≤ g) :
    ((((W.setCell ⟨g, 0, none⟩ y0).setCell ⟨g, 1, none⟩ y1).setCell ⟨g, 2, none⟩ y2).setCell ⟨g, 3, none⟩ y3).heap[g]? = some (.cells #[y0, y1, y2, y3] 62 (0, 0)) ∧ Below b W ((((W.setCell ⟨g, 0, none⟩ y0).setCell ⟨g, 1, none⟩ y1).setCell ⟨g, 2, none⟩ y2).setCell ⟨g, 3, none⟩ y3) := by
  refine ⟨?_, ?_⟩
  · have h0 := h
    have h1 : (W.setCell ⟨g, 0, none⟩ y0).heap[g]? = some (.cells #[y0, x1, x2, x3] 62 (0, 0)) := heap_setCell_same _ g 0 _ 62 y0 h0
    have h2 : ((W.setCell ⟨g, 0, none⟩ y0).setCell ⟨g, 1, none⟩ y1).heap[g]? = some (.cells #[y0, y1, x2, x3] 62 (0, 0)) := heap_setCell_same _ g 1 _ 62 y1 h1
    have h3 : (((W.setCell ⟨g, 0, none⟩ y0).setCell ⟨g, 1, none⟩ y1).setCell ⟨g, 2, none⟩ y2).heap[g]? = some (.cells #[y0, y1, y2, x3] 62 (0, 0)) := heap_setCell_same _ g 2 _ 62 y2 h2
    have h4 : ((((W.setCell ⟨g, 0, none⟩ y0).setCell ⟨g, 1, none⟩ y1).setCell ⟨g, 2, none⟩ y2).setCell ⟨g, 3, none⟩ y3).heap[g]? = some (.cells #[y0, y1, y2, y3] 62 (0, 0)) := heap_setCell_same _ g 3 _ 62 y3 h3
    exact h4
  · have k0 := Below.refl b W
    have k1 := k0.setCell (p := ⟨g, 0, none⟩) hb y0
    have k2 := k1.setCell (p := ⟨g, 1, none⟩) hb y1
    have k3 := k2.setCell (p := ⟨g, 2, none⟩) hb y2
    have k4 := k3.setCell (p := ⟨g, 3, none⟩) hb y3
    exact k4
theorem cells_Snp {W : World} {g : Nat} {x0 x1 x2 x3 : Value} (h : W.heap[g]? = some (.cells #[x0, x1, x2, x3] 62 (0, 0))) :
    W.cell? ⟨g, 0, none⟩ = some x0 ∧ W.cell? ⟨g, 1, none⟩ = some x1 ∧ W.cell? ⟨g, 2, none⟩ = some x2 ∧ W.cell? ⟨g, 3, none⟩ = some x3 := by
  refine ⟨?_, ?_, ?_, ?_⟩ <;> rw [cell_of_row W g _ _ 62 (0, 0) h] <;> rfl
set_option maxRecDepth 4000 in
set_option maxHeartbeats 4000000 in
theorem taken_Snp {w : World} {b A B : Nat} {st : R} {wr : Bool} (h : Cr w b A B st wr) (n0 : Int) (n1 : Int) (a2 : Option Addr) (l2 e2 : Nat) (a3 : Option Addr) (l3 e3 : Nat) :
    Calls Try.prog 59 #[.pointer (some ⟨A, 0, none⟩), .agg #[.int .i64 n0, .int .i64 n1, .slice a2 l2 e2, .slice a3 l3 e3]] w fun e w' => e = .returned (.tuple #[.agg (okC st wr #[.int .i64 n0, .int .i64 n1, .slice a2 l2 e2, .slice a3 l3 e3] #[.int .i64 0, .int .i64 0, .slice none 0 0, .slice none 0 0]), .int .i64 (okN st wr)]) ∧ Hid (Below w.heap.size w w') := by
  obtain ⟨X, hX⟩ : ∃ X, Hid (X = (w.alloc (.cells #[.int .i64 n0, .int .i64 n1, .slice a2 l2 e2, .slice a3 l3 e3] 62)).alloc (.cells #[.int .i64 0, .int .i64 0, .slice none 0 0, .slice none 0 0] 62)) := ⟨_, (rfl : _ = _)⟩
  have HBX : Hid (Below w.heap.size w X) := by rw [hX.out]; exact ((Below.refl _ w).alloc (Nat.le_refl _) _).alloc (by simp) _
  have hb1 : X.heap[w.heap.size]? = some (.cells #[.int .i64 n0, .int .i64 n1, .slice a2 l2 e2, .slice a3 l3 e3] 62 (0, 0)) := by
    rw [hX.out]
    exact (((Below.refl _ _).alloc (Nat.le_refl _) _).block w.heap.size (by simp)).trans (heap_alloc_new _ _)
  have hb2 : X.heap[w.heap.size + 1]? = some (.cells #[.int .i64 0, .int .i64 0, .slice none 0 0, .slice none 0 0] 62 (0, 0)) := by rw [hX.out]; exact heap_alloc2_new _ _ _
  have HC := hide (h.kept HBX.out)
  have HG := hide (goesOn_any HC.out)
  have HL := hide (left_any B st X HC.out.q.rd)
  obtain ⟨k0, k1, -, -⟩ := HC.out.cells
  obtain ⟨pc0, pc1, pc2, pc3⟩ := cells_Snp hb1
  obtain ⟨qc0, qc1, qc2, qc3⟩ := cells_Snp hb2
  have qf := fun i => frozen_of_row X (w.heap.size + 1) i _ 62 hb2
  have HB2 := hide hb2
  have qfa := fun o i => frozen_of_row (X.alloc o) (w.heap.size + 1) i _ 62 (heap_alloc_kept hb2 o)
  have hsz : X.heap.size = w.heap.size + 2 := by rw [hX.out]; simp
  have HSZ := hide hsz
  have qa0 := cell_alloc qc0
  have qa1 := cell_alloc qc1
  have qa2 := cell_alloc qc2
  have qa3 := cell_alloc qc3
  clear hb1 hb2 h hsz
  go_enter Try.func59, Try.ntmps59
  go_upto_region 1 with fail
  rw [← hX.out]
  cases hg : (st.isSome && !wr)
  · rw [hg] at HG
    have HO := hide (okB_off hg)
    clear hg
    go_wp2_with fail
    refine Calls.mono HG.out ?_
    rintro e w4 ⟨rfl, hw4⟩
    have hw4' := hw4.symm
    subst hw4'
    clear hw4
    go_wp2_with fail
    refine bodyPost_ret (ret_cell rfl _ _ (w.heap.size + 1) 62 _ rfl (set_Snp (b := w.heap.size) _ _ _ _ (heap_alloc_kept HB2.out _) (by omega)).1 Try.underlying62 sz_Snp) rfl ?_
    rw [okC, okN, HO.out]
    exact ⟨rfl, (HBX.out.alloc HBX.out.size _).trans (set_Snp (b := w.heap.size) _ _ _ _ (heap_alloc_kept HB2.out _) (by omega)).2⟩
  · rw [hg] at HG
    obtain ⟨l, rfl, rfl⟩ : ∃ l, st = some l ∧ wr = false := by
      cases st with
      | none => simp at hg
      | some l => cases wr <;> simp at hg ⊢
    clear hg
    by_cases h0 : 0 < l.length
    · have HO := hide (okB_more h0)
      have h0' : (0 : Int) < ((Option.getD (some l) []).length : Nat) := by simp only [Option.getD_some]; omega
      clear h0
      obtain ⟨N, hN⟩ : ∃ N : Nat, Hid ((Option.getD (some l) []).length = N) := ⟨_, (rfl : _ = _)⟩
      rw [hN.out] at HL h0'
      go_wp2_with fail
      refine Calls.mono HG.out ?_
      rintro e w4 ⟨rfl, hw4⟩
      have hw4' := hw4.symm
      subst hw4'
      clear hw4
      go_wp2_with fail
      refine Calls.mono HL.out ?_
      rintro e w4 ⟨rfl, hw4⟩
      have hw4' := hw4.symm
      subst hw4'
      clear hw4
      go_wp2_with fail
      refine bodyPost_ret (ret_cell rfl _ _ (w.heap.size + 1) 62 _ rfl (set_Snp (b := w.heap.size) _ _ _ _ (heap_alloc_kept HB2.out _) (by omega)).1 Try.underlying62 sz_Snp) rfl ?_
      rw [okC, okN, HO.out]
      exact ⟨rfl, (HBX.out.alloc HBX.out.size _).trans (set_Snp (b := w.heap.size) _ _ _ _ (heap_alloc_kept HB2.out _) (by omega)).2⟩
    · have hl : l = [] := List.eq_nil_of_length_eq_zero (by omega)
      subst hl
      clear h0
      have HO : Hid (okB (some []) false = true) := (rfl : _ = _)
      have HL0 : Hid (Calls Try.prog 68 #[.pointer (some ⟨B, 0, none⟩)] X fun e w' => e = .returned (.int .i64 (0 : Int)) ∧ w' = X) := HL.out
      clear HL
      go_wp2_with fail
      refine Calls.mono HG.out ?_
      rintro e w4 ⟨rfl, hw4⟩
      have hw4' := hw4.symm
      subst hw4'
      clear hw4
      go_wp2_with fail
      refine Calls.mono HL0.out ?_
      rintro e w4 ⟨rfl, hw4⟩
      have hw4' := hw4.symm
      subst hw4'
      clear hw4
      go_wp2_with fail
      refine bodyPost_ret (ret_cell rfl _ _ (w.heap.size + 1) 62 _ rfl (set_Snp (b := w.heap.size) _ _ _ _ HB2.out (by omega)).1 Try.underlying62 sz_Snp) rfl ?_
      rw [okC, okN, HO.out]
      exact ⟨rfl, HBX.out.trans (set_Snp (b := w.heap.size) _ _ _ _ HB2.out (by omega)).2⟩

theorem sz_Msg : (Try.prog.info? 54).map (·.size) = some 15 := by kernel_rfl
theorem set_Msg {W : World} {g b : Nat} {x0 x1 x2 x3 x4 x5 x6 x7 x8 x9 x10 x11 x12 x13 x14 : Value} (y0 y1 y2 y3 y4 y5 y6 y7 y8 y9 y10 y11 y12 y13 y14 : Value) (h : W.heap[g]? = some (.cells #[x0, x1, x2, x3, x4, x5, x6, x7, x8, x9, x10, x11, x12, x13, x14] 54 (0, 0))) (hb : b ≤ g) :
    (((((((((((((((W.setCell ⟨g, 0, none⟩ y0).setCell ⟨g, 1, none⟩ y1).setCell ⟨g, 2, none⟩ y2).setCell ⟨g, 3, none⟩ y3).setCell ⟨g, 4, none⟩ y4).setCell ⟨g, 5, none⟩ y5).setCell ⟨g, 6, none⟩ y6).setCell ⟨g, 7, none⟩ y7).setCell ⟨g, 8, none⟩ y8).setCell ⟨g, 9, none⟩ y9).setCell ⟨g, 10, none⟩ y10).setCell ⟨g, 11, none⟩ y11).setCell ⟨g, 12, none⟩ y12).setCell ⟨g, 13, none⟩ y13).setCell ⟨g, 14, none⟩ y14).heap[g]? = some (.cells #[y0, y1, y2, y3, y4, y5, y6, y7, y8, y9, y10, y11, y12, y13, y14] 54 (0, 0)) ∧ Below b W (((((((((((((((W.setCell ⟨g, 0, none⟩ y0).setCell ⟨g, 1, none⟩ y1).setCell ⟨g, 2, none⟩ y2).setCell ⟨g, 3, none⟩ y3).setCell ⟨g, 4, none⟩ y4).setCell ⟨g, 5, none⟩ y5).setCell ⟨g, 6, none⟩ y6).setCell ⟨g, 7, none⟩ y7).setCell ⟨g, 8, none⟩ y8).setCell ⟨g, 9, none⟩ y9).setCell ⟨g, 10, none⟩ y10).setCell ⟨g, 11, none⟩ y11).setCell ⟨g, 12, none⟩ y12).setCell ⟨g, 13, none⟩ y13).setCell ⟨g, 14, none⟩ y14) := by
  refine ⟨?_, ?_⟩
  · have h0 := h
    have h1 : (W.setCell ⟨g, 0, none⟩ y0).heap[g]? = some (.cells #[y0, x1, x2, x3, x4, x5, x6, x7, x8, x9, x10, x11, x12, x13, x14] 54 (0, 0)) := heap_setCell_same _ g 0 _ 54 y0 h0
    generalize (W.setCell ⟨g, 0, none⟩ y0) = W1 at h1 ⊢
    have h2 : (W1.setCell ⟨g, 1, none⟩ y1).heap[g]? = some (.cells #[y0, y1, x2, x3, x4, x5, x6, x7, x8, x9, x10, x11, x12, x13, x14] 54 (0, 0)) := heap_setCell_same _ g 1 _ 54 y1 h1
    generalize (W1.setCell ⟨g, 1, none⟩ y1) = W2 at h2 ⊢
    have h3 : (W2.setCell ⟨g, 2, none⟩ y2).heap[g]? = some (.cells #[y0, y1, y2, x3, x4, x5, x6, x7, x8, x9, x10, x11, x12, x13, x14] 54 (0, 0)) := heap_setCell_same _ g 2 _ 54 y2 h2
    generalize (W2.setCell ⟨g, 2, none⟩ y2) = W3 at h3 ⊢
    have h4 : (W3.setCell ⟨g, 3, none⟩ y3).heap[g]? = some (.cells #[y0, y1, y2, y3, x4, x5, x6, x7, x8, x9, x10, x11, x12, x13, x14] 54 (0, 0)) := heap_setCell_same _ g 3 _ 54 y3 h3
    generalize (W3.setCell ⟨g, 3, none⟩ y3) = W4 at h4 ⊢
    have h5 : (W4.setCell ⟨g, 4, none⟩ y4).heap[g]? = some (.cells #[y0, y1, y2, y3, y4, x5, x6, x7, x8, x9, x10, x11, x12, x13, x14] 54 (0, 0)) := heap_setCell_same _ g 4 _ 54 y4 h4
    generalize (W4.setCell ⟨g, 4, none⟩ y4) = W5 at h5 ⊢
    have h6 : (W5.setCell ⟨g, 5, none⟩ y5).heap[g]? = some (.cells #[y0, y1, y2, y3, y4, y5, x6, x7, x8, x9, x10, x11, x12, x13, x14] 54 (0, 0)) := heap_setCell_same _ g 5 _ 54 y5 h5
    generalize (W5.setCell ⟨g, 5, none⟩ y5) = W6 at h6 ⊢
    have h7 : (W6.setCell ⟨g, 6, none⟩ y6).heap[g]? = some (.cells #[y0, y1, y2, y3, y4, y5, y6, x7, x8, x9, x10, x11, x12, x13, x14] 54 (0, 0)) := heap_setCell_same _ g 6 _ 54 y6 h6
    generalize (W6.setCell ⟨g, 6, none⟩ y6) = W7 at h7 ⊢
    have h8 : (W7.setCell ⟨g, 7, none⟩ y7).heap[g]? = some (.cells #[y0, y1, y2, y3, y4, y5, y6, y7, x8, x9, x10, x11, x12, x13, x14] 54 (0, 0)) := heap_setCell_same _ g 7 _ 54 y7 h7
    generalize (W7.setCell ⟨g, 7, none⟩ y7) = W8 at h8 ⊢
    have h9 : (W8.setCell ⟨g, 8, none⟩ y8).heap[g]? = some (.cells #[y0, y1, y2, y3, y4, y5, y6, y7, y8, x9, x10, x11, x12, x13, x14] 54 (0, 0)) := heap_setCell_same _ g 8 _ 54 y8 h8
    generalize (W8.setCell ⟨g, 8, none⟩ y8) = W9 at h9 ⊢
    have h10 : (W9.setCell ⟨g, 9, none⟩ y9).heap[g]? = some (.cells #[y0, y1, y2, y3, y4, y5, y6, y7, y8, y9, x10, x11, x12, x13, x14] 54 (0, 0)) := heap_setCell_same _ g 9 _ 54 y9 h9
    generalize (W9.setCell ⟨g, 9, none⟩ y9) = W10 at h10 ⊢
    have h11 : (W10.setCell ⟨g, 10, none⟩ y10).heap[g]? = some (.cells #[y0, y1, y2, y3, y4, y5, y6, y7, y8, y9, y10, x11, x12, x13, x14] 54 (0, 0)) := heap_setCell_same _ g 10 _ 54 y10 h10
    generalize (W10.setCell ⟨g, 10, none⟩ y10) = W11 at h11 ⊢
    have h12 : (W11.setCell ⟨g, 11, none⟩ y11).heap[g]? = some (.cells #[y0, y1, y2, y3, y4, y5, y6, y7, y8, y9, y10, y11, x12, x13, x14] 54 (0, 0)) := heap_setCell_same _ g 11 _ 54 y11 h11
    generalize (W11.setCell ⟨g, 11, none⟩ y11) = W12 at h12 ⊢
    have h13 : (W12.setCell ⟨g, 12, none⟩ y12).heap[g]? = some (.cells #[y0, y1, y2, y3, y4, y5, y6, y7, y8, y9, y10, y11, y12, x13, x14] 54 (0, 0)) := heap_setCell_same _ g 12 _ 54 y12 h12
    generalize (W12.setCell ⟨g, 12, none⟩ y12) = W13 at h13 ⊢
    have h14 : (W13.setCell ⟨g, 13, none⟩ y13).heap[g]? = some (.cells #[y0, y1, y2, y3, y4, y5, y6, y7, y8, y9, y10, y11, y12, y13, x14] 54 (0, 0)) := heap_setCell_same _ g 13 _ 54 y13 h13
    generalize (W13.setCell ⟨g, 13, none⟩ y13) = W14 at h14 ⊢
    have h15 : (W14.setCell ⟨g, 14, none⟩ y14).heap[g]? = some (.cells #[y0, y1, y2, y3, y4, y5, y6, y7, y8, y9, y10, y11, y12, y13, y14] 54 (0, 0)) := heap_setCell_same _ g 14 _ 54 y14 h14
    generalize (W14.setCell ⟨g, 14, none⟩ y14) = W15 at h15 ⊢
    exact h15
  · have k0 := Below.refl b W
    have k1 := k0.setCell (p := ⟨g, 0, none⟩) hb y0
    have k2 := k1.setCell (p := ⟨g, 1, none⟩) hb y1
    have k3 := k2.setCell (p := ⟨g, 2, none⟩) hb y2
    have k4 := k3.setCell (p := ⟨g, 3, none⟩) hb y3
    have k5 := k4.setCell (p := ⟨g, 4, none⟩) hb y4
    have k6 := k5.setCell (p := ⟨g, 5, none⟩) hb y5
    have k7 := k6.setCell (p := ⟨g, 6, none⟩) hb y6
    have k8 := k7.setCell (p := ⟨g, 7, none⟩) hb y7
    have k9 := k8.setCell (p := ⟨g, 8, none⟩) hb y8
    have k10 := k9.setCell (p := ⟨g, 9, none⟩) hb y9
    have k11 := k10.setCell (p := ⟨g, 10, none⟩) hb y10
    have k12 := k11.setCell (p := ⟨g, 11, none⟩) hb y11
    have k13 := k12.setCell (p := ⟨g, 12, none⟩) hb y12
    have k14 := k13.setCell (p := ⟨g, 13, none⟩) hb y13
    have k15 := k14.setCell (p := ⟨g, 14, none⟩) hb y14
    exact k15
theorem cells_Msg {W : World} {g : Nat} {x0 x1 x2 x3 x4 x5 x6 x7 x8 x9 x10 x11 x12 x13 x14 : Value} (h : W.heap[g]? = some (.cells #[x0, x1, x2, x3, x4, x5, x6, x7, x8, x9, x10, x11, x12, x13, x14] 54 (0, 0))) :
    W.cell? ⟨g, 0, none⟩ = some x0 ∧ W.cell? ⟨g, 1, none⟩ = some x1 ∧ W.cell? ⟨g, 2, none⟩ = some x2 ∧ W.cell? ⟨g, 3, none⟩ = some x3 ∧ W.cell? ⟨g, 4, none⟩ = some x4 ∧ W.cell? ⟨g, 5, none⟩ = some x5 ∧ W.cell? ⟨g, 6, none⟩ = some x6 ∧ W.cell? ⟨g, 7, none⟩ = some x7 ∧ W.cell? ⟨g, 8, none⟩ = some x8 ∧ W.cell? ⟨g, 9, none⟩ = some x9 ∧ W.cell? ⟨g, 10, none⟩ = some x10 ∧ W.cell? ⟨g, 11, none⟩ = some x11 ∧ W.cell? ⟨g, 12, none⟩ = some x12 ∧ W.cell? ⟨g, 13, none⟩ = some x13 ∧ W.cell? ⟨g, 14, none⟩ = some x14 := by
  refine ⟨?_, ?_, ?_, ?_, ?_, ?_, ?_, ?_, ?_, ?_, ?_, ?_, ?_, ?_, ?_⟩ <;> rw [cell_of_row W g _ _ 54 (0, 0) h] <;> rfl
set_option maxRecDepth 4000 in
set_option maxHeartbeats 4000000 in
theorem taken_Msg {w : World} {b A B : Nat} {st : R} {wr : Bool} (h : Cr w b A B st wr) (n0 : Int) (n1 : Int) (n2 : Int) (n3 : Int) (n4 : Int) (n5 : Int) (n6 : Int) (a7 : Option Addr) (l7 e7 : Nat) (t8 : Bool) (n9 : Int) (a10 : Option Addr) (l10 e10 : Nat) (a11 : Option Addr) (l11 e11 : Nat) (n12 : Int) (n13 : Int) (n14 : Int) :
    Calls Try.prog 56 #[.pointer (some ⟨A, 0, none⟩), .agg #[.int .i64 n0, .int .i64 n1, .int .i64 n2, .int .i64 n3, .int .i64 n4, .int .i64 n5, .int .i64 n6, .slice a7 l7 e7, .bool t8, .int .i64 n9, .slice a10 l10 e10, .slice a11 l11 e11, .int .i64 n12, .int .i64 n13, .int .i64 n14]] w fun e w' => e = .returned (.tuple #[.agg (okC st wr #[.int .i64 n0, .int .i64 n1, .int .i64 n2, .int .i64 n3, .int .i64 n4, .int .i64 n5, .int .i64 n6, .slice a7 l7 e7, .bool t8, .int .i64 n9, .slice a10 l10 e10, .slice a11 l11 e11, .int .i64 n12, .int .i64 n13, .int .i64 n14] #[.int .i64 0, .int .i64 0, .int .i64 0, .int .i64 0, .int .i64 0, .int .i64 0, .int .i64 0, .slice none 0 0, .bool false, .int .i64 0, .slice none 0 0, .slice none 0 0, .int .i64 0, .int .i64 0, .int .i64 0]), .int .i64 (okN st wr)]) ∧ Hid (Below w.heap.size w w') := by
  obtain ⟨X, hX⟩ : ∃ X, Hid (X = (w.alloc (.cells #[.int .i64 n0, .int .i64 n1, .int .i64 n2, .int .i64 n3, .int .i64 n4, .int .i64 n5, .int .i64 n6, .slice a7 l7 e7, .bool t8, .int .i64 n9, .slice a10 l10 e10, .slice a11 l11 e11, .int .i64 n12, .int .i64 n13, .int .i64 n14] 54)).alloc (.cells #[.int .i64 0, .int .i64 0, .int .i64 0, .int .i64 0, .int .i64 0, .int .i64 0, .int .i64 0, .slice none 0 0, .bool false, .int .i64 0, .slice none 0 0, .slice none 0 0, .int .i64 0, .int .i64 0, .int .i64 0] 54)) := ⟨_, (rfl : _ = _)⟩
  have HBX : Hid (Below w.heap.size w X) := by rw [hX.out]; exact ((Below.refl _ w).alloc (Nat.le_refl _) _).alloc (by simp) _
  have hb1 : X.heap[w.heap.size]? = some (.cells #[.int .i64 n0, .int .i64 n1, .int .i64 n2, .int .i64 n3, .int .i64 n4, .int .i64 n5, .int .i64 n6, .slice a7 l7 e7, .bool t8, .int .i64 n9, .slice a10 l10 e10, .slice a11 l11 e11, .int .i64 n12, .int .i64 n13, .int .i64 n14] 54 (0, 0)) := by
    rw [hX.out]
    exact (((Below.refl _ _).alloc (Nat.le_refl _) _).block w.heap.size (by simp)).trans (heap_alloc_new _ _)
  have hb2 : X.heap[w.heap.size + 1]? = some (.cells #[.int .i64 0, .int .i64 0, .int .i64 0, .int .i64 0, .int .i64 0, .int .i64 0, .int .i64 0, .slice none 0 0, .bool false, .int .i64 0, .slice none 0 0, .slice none 0 0, .int .i64 0, .int .i64 0, .int .i64 0] 54 (0, 0)) := by rw [hX.out]; exact heap_alloc2_new _ _ _
  have HC := hide (h.kept HBX.out)
  have HG := hide (goesOn_any HC.out)
  have HL := hide (left_any B st X HC.out.q.rd)
  obtain ⟨k0, k1, -, -⟩ := HC.out.cells
  obtain ⟨pc0, pc1, pc2, pc3, pc4, pc5, pc6, pc7, pc8, pc9, pc10, pc11, pc12, pc13, pc14⟩ := cells_Msg hb1
  obtain ⟨qc0, qc1, qc2, qc3, qc4, qc5, qc6, qc7, qc8, qc9, qc10, qc11, qc12, qc13, qc14⟩ := cells_Msg hb2
  have qf := fun i => frozen_of_row X (w.heap.size + 1) i _ 54 hb2
  have HB2 := hide hb2
  have qfa := fun o i => frozen_of_row (X.alloc o) (w.heap.size + 1) i _ 54 (heap_alloc_kept hb2 o)
  have hsz : X.heap.size = w.heap.size + 2 := by rw [hX.out]; simp
  have HSZ := hide hsz
  have qa0 := cell_alloc qc0
  have qa1 := cell_alloc qc1
  have qa2 := cell_alloc qc2
  have qa3 := cell_alloc qc3
  have qa4 := cell_alloc qc4
  have qa5 := cell_alloc qc5
  have qa6 := cell_alloc qc6
  have qa7 := cell_alloc qc7
  have qa8 := cell_alloc qc8
  have qa9 := cell_alloc qc9
  have qa10 := cell_alloc qc10
  have qa11 := cell_alloc qc11
  have qa12 := cell_alloc qc12
  have qa13 := cell_alloc qc13
  have qa14 := cell_alloc qc14
  clear hb1 hb2 h hsz
  go_enter Try.func56, Try.ntmps56
  go_upto_region 1 with fail
  rw [← hX.out]
  cases hg : (st.isSome && !wr)
  · rw [hg] at HG
    have HO := hide (okB_off hg)
    clear hg
    go_wp2_with fail
    refine Calls.mono HG.out ?_
    rintro e w4 ⟨rfl, hw4⟩
    have hw4' := hw4.symm
    subst hw4'
    clear hw4
    go_wp2_with fail
    refine bodyPost_ret (ret_cell rfl _ _ (w.heap.size + 1) 54 _ rfl (set_Msg (b := w.heap.size) _ _ _ _ _ _ _ _ _ _ _ _ _ _ _ (heap_alloc_kept HB2.out _) (by omega)).1 Try.underlying54 sz_Msg) rfl ?_
    rw [okC, okN, HO.out]
    exact ⟨rfl, (HBX.out.alloc HBX.out.size _).trans (set_Msg (b := w.heap.size) _ _ _ _ _ _ _ _ _ _ _ _ _ _ _ (heap_alloc_kept HB2.out _) (by omega)).2⟩
  · rw [hg] at HG
    obtain ⟨l, rfl, rfl⟩ : ∃ l, st = some l ∧ wr = false := by
      cases st with
      | none => simp at hg
      | some l => cases wr <;> simp at hg ⊢
    clear hg
    by_cases h0 : 0 < l.length
    · have HO := hide (okB_more h0)
      have h0' : (0 : Int) < ((Option.getD (some l) []).length : Nat) := by simp only [Option.getD_some]; omega
      clear h0
      obtain ⟨N, hN⟩ : ∃ N : Nat, Hid ((Option.getD (some l) []).length = N) := ⟨_, (rfl : _ = _)⟩
      rw [hN.out] at HL h0'
      go_wp2_with fail
      refine Calls.mono HG.out ?_
      rintro e w4 ⟨rfl, hw4⟩
      have hw4' := hw4.symm
      subst hw4'
      clear hw4
      go_wp2_with fail
      refine Calls.mono HL.out ?_
      rintro e w4 ⟨rfl, hw4⟩
      have hw4' := hw4.symm
      subst hw4'
      clear hw4
      go_wp2_with fail
      refine bodyPost_ret (ret_cell rfl _ _ (w.heap.size + 1) 54 _ rfl (set_Msg (b := w.heap.size) _ _ _ _ _ _ _ _ _ _ _ _ _ _ _ (heap_alloc_kept HB2.out _) (by omega)).1 Try.underlying54 sz_Msg) rfl ?_
      rw [okC, okN, HO.out]
      exact ⟨rfl, (HBX.out.alloc HBX.out.size _).trans (set_Msg (b := w.heap.size) _ _ _ _ _ _ _ _ _ _ _ _ _ _ _ (heap_alloc_kept HB2.out _) (by omega)).2⟩
    · have hl : l = [] := List.eq_nil_of_length_eq_zero (by omega)
      subst hl
      clear h0
      have HO : Hid (okB (some []) false = true) := (rfl : _ = _)
      have HL0 : Hid (Calls Try.prog 68 #[.pointer (some ⟨B, 0, none⟩)] X fun e w' => e = .returned (.int .i64 (0 : Int)) ∧ w' = X) := HL.out
      clear HL
      go_wp2_with fail
      refine Calls.mono HG.out ?_
      rintro e w4 ⟨rfl, hw4⟩
      have hw4' := hw4.symm
      subst hw4'
      clear hw4
      go_wp2_with fail
      refine Calls.mono HL0.out ?_
      rintro e w4 ⟨rfl, hw4⟩
      have hw4' := hw4.symm
      subst hw4'
      clear hw4
      go_wp2_with fail
      refine bodyPost_ret (ret_cell rfl _ _ (w.heap.size + 1) 54 _ rfl (set_Msg (b := w.heap.size) _ _ _ _ _ _ _ _ _ _ _ _ _ _ _ HB2.out (by omega)).1 Try.underlying54 sz_Msg) rfl ?_
      rw [okC, okN, HO.out]
      exact ⟨rfl, HBX.out.trans (set_Msg (b := w.heap.size) _ _ _ _ _ _ _ _ _ _ _ _ _ _ _ HB2.out (by omega)).2⟩


end Go.Proofs.Ytgknpbgepgmmmaa.Cm
namespace Go.Proofs.Ytgknpbgepgmmmaa.Cm
open Go.RowKit Bn Kp

/-- The reader at a moment, and what holds from now on. -/
structure Qs (b A B : Nat) (X : World) (st : R) (wr : Bool) (F : World → Prop) (W : World) : Prop where
  cr : Cr W b A B st wr
  fr : Kb A B X W
  le : b ≤ X.heap.size
  keep : ∀ W', Kb A B W W' → F W'
theorem Qs.now {b A B : Nat} {X : World} {st : R} {wr : Bool} {F : World → Prop} {W : World} (h : Qs b A B X st wr F W) : F W := h.keep W (Wrote.refl _ _ _)
theorem Qs.s {b A B : Nat} {X : World} {st : R} {wr : Bool} {F : World → Prop} {W : World} (h : Qs b A B X st wr F W) : Sx A B W := h.cr.cells.1
theorem Qs.drew {b A B : Nat} {X : World} {st : R} {wr : Bool} {F : World → Prop} {W : World} (h : Qs b A B X st wr F W) : Qs b A B X st wr F W.drew :=
  ⟨h.cr.drew, h.fr.drew, h.le, fun W' hk => h.keep W' ((Kb.drew (Wrote.refl _ _ _)).trans hk)⟩
theorem kb_alloc (A B : Nat) (W : World) (o : Obj) : Kb A B W (W.alloc o) := Kb.of_below ((Below.refl _ _).alloc (Nat.le_refl _) _)
/-- A block that was laid on the way. -/
def Zb (b P : Nat) (o : Obj) (W : World) : Prop := W.heap[P]? = some o ∧ b ≤ P
theorem Qs.alloc {b A B : Nat} {X : World} {st : R} {wr : Bool} {F : World → Prop} {W : World} (h : Qs b A B X st wr F W) (o : Obj) : Qs b A B X st wr (fun W' => F W' ∧ Zb b W.heap.size o W') (W.alloc o) :=
  have h1 := Nat.le_trans h.le h.fr.size
  ⟨h.cr.alloc o, h.fr.trans (kb_alloc _ _ _ _), h.le, fun W' hk => ⟨h.keep W' ((kb_alloc _ _ _ _).trans hk), by
    have h2 := h.cr.a_lt
    have h3 := h.cr.b_lt
    rw [hk.block W.heap.size (by simp) (by omega) (by simp; omega)]
    exact heap_alloc_new _ _, h1⟩⟩
theorem own_ne {W : World} {b e s n P T : Nat} {v : Value} {xs : List Value} {cs : Array Value} (h : W.ownsRow b e s v n xs) (hP : W.heap[P]? = some (Obj.cells cs T (0, 0))) (hT : T ≠ e) : v.ownBlock ≠ some P := by
  intro e1
  rcases h.2 with ⟨rfl, _⟩ | ⟨g, cap, cur, rfl, _, hg, _⟩
  · simp [Value.ownBlock] at e1
  · simp [Value.ownBlock] at e1
    subst e1
    rw [hg] at hP
    injection hP with hP
    injection hP with _ h3 _
    exact hT h3.symm
/-- A row lies aside from a block of another type: whatever is written there, it stays. -/
theorem own_off {W W' : World} {b e s n P T : Nat} {v : Value} {xs : List Value} {cs : Array Value} (h : W.ownsRow b e s v n xs) (hP : W.heap[P]? = some (Obj.cells cs T (0, 0))) (hT : T ≠ e) (hk : ∀ k, k ≠ P → W'.heap[k]? = W.heap[k]?) : W'.ownsRow b e s v n xs := by
  have hne := own_ne h hP hT
  refine ⟨h.1, ?_⟩
  rcases h.2 with hn' | ⟨g', cap', cur, e1, hb', hgg, rest⟩
  · exact .inl hn'
  · refine .inr ⟨g', cap', cur, e1, hb', ?_, rest⟩
    rw [hk g' (fun e : g' = P => hne (by rw [e1, ← e]; rfl))]
    exact hgg
theorem er_off {W W' : World} {b P T : Nat} {v : Value} {es : List Ent} {cs : Array Value} (h : Er b W v es) (hP : W.heap[P]? = some (Obj.cells cs T (0, 0))) (hT : T ≠ 90) (hT5 : T ≠ 5) (hk : ∀ k, k ≠ P → W'.heap[k]? = W.heap[k]?) : Er b W' v es := by
  obtain ⟨us, h1, h2, h3⟩ := h
  refine ⟨us, h1, own_off h2 hP hT hk, fun j e hj => ?_⟩
  obtain ⟨u, h4, h5⟩ := h3 j e hj
  exact ⟨u, h4, own_off h5 hP hT5 hk⟩
theorem ne_type {W : World} {P Q T U : Nat} {cs ds : Array Value} (h : W.heap[P]? = some (Obj.cells cs T (0, 0))) (k : W.heap[Q]? = some (Obj.cells ds U (0, 0))) (hT : T ≠ U) : P ≠ Q := by
  intro e
  subst e
  rw [h] at k
  injection k with k
  injection k with _ h3 _
  exact hT h3

abbrev QNum (b A B : Nat) (X : World) (n : Int) (st' : R) (wr : Bool) (F : World → Prop) (W : World) : Prop := Calls Try.prog 35 #[.pointer (some ⟨B, 0, none⟩)] W fun e w' => e = .returned (.int .i64 n) ∧ Qs b A B X st' wr F w'
theorem qnumQ {b A B : Nat} {X : World} {st st' : R} {n : Int} {wr : Bool} {F : World → Prop} {W : World} (e : rNum st = (n, st')) (h : Qs b A B X st wr F W) : QNum b A B X n st' wr F W := by
  have H := cnum h.cr
  rw [e] at H
  refine H.mono ?_
  rintro e w' ⟨rfl, hp⟩
  exact ⟨rfl, hp.out.1, h.fr.trans hp.out.2, h.le, fun W' hk => h.keep W' (hp.out.2.trans hk)⟩
theorem qflagQ {b A B : Nat} {X : World} {st st' : R} {n : Bool} {wr : Bool} {F : World → Prop} {W : World} (e : rFlag st = (n, st')) (h : Qs b A B X st wr F W) :
    Calls Try.prog 43 #[.pointer (some ⟨B, 0, none⟩)] W fun e w' => e = .returned (.bool n) ∧ Qs b A B X st' wr F w' := by
  have H := cflag h.cr
  rw [e] at H
  refine H.mono ?_
  rintro e w' ⟨rfl, hp⟩
  exact ⟨rfl, hp.out.1, h.fr.trans hp.out.2, h.le, fun W' hk => h.keep W' (hp.out.2.trans hk)⟩
theorem qtextQ {b A B : Nat} {X : World} {st st' : R} {t : List UInt8} {wr : Bool} {F : World → Prop} {W : World} (e : rText st = (t, st')) (h : Qs b A B X st wr F W) :
    Calls Try.prog 36 #[.pointer (some ⟨B, 0, none⟩)] W fun e w' => ∃ ao L cap, e = .returned (.slice ao L cap) ∧ Qs b A B X st' wr (fun W' => F W' ∧ Dt b W' (.slice ao L cap) t) w' := by
  have H := ctext h.cr
  rw [e] at H
  refine H.mono ?_
  rintro e w' ⟨ao, L, cap, rfl, hp⟩
  have h1 := Nat.le_trans h.le h.fr.size
  exact ⟨ao, L, cap, rfl, hp.out.1, h.fr.trans hp.out.2.2, h.le, fun W' hk => ⟨h.keep W' (hp.out.2.2.trans hk), own_kb (own_low hp.out.2.1 h1) hk h.cr.a_lt h.cr.b_lt⟩⟩
theorem qdataQ {b A B : Nat} {X : World} {st st' : R} {t : List UInt8} {wr : Bool} {F : World → Prop} {W : World} (e : rText st = (t, st')) (h : Qs b A B X st wr F W) :
    Calls Try.prog 55 #[.pointer (some ⟨A, 0, none⟩)] W fun e w' => ∃ ao L cap, e = .returned (.slice ao L cap) ∧ Qs b A B X st' wr (fun W' => F W' ∧ Dt b W' (.slice ao L cap) t) w' := by
  have H := data_any h.cr
  rw [e] at H
  refine H.mono ?_
  rintro e w' ⟨ao, L, cap, rfl, hp⟩
  have h1 := Nat.le_trans h.le h.fr.size
  exact ⟨ao, L, cap, rfl, hp.out.1, h.fr.trans hp.out.2.2, h.le, fun W' hk => ⟨h.keep W' (hp.out.2.2.trans hk), own_kb (own_low hp.out.2.1 h1) hk h.cr.a_lt h.cr.b_lt⟩⟩
theorem qidsQ {b A B : Nat} {X : World} {st st' : R} {ns : List Int} {most : Int} {wr wr' : Bool} {F : World → Prop} {W : World} (e : rdLs rNum most st wr = ((ns, st'), wr')) (hl : goS st ≤ 1000000) (h : Qs b A B X st wr F W) :
    Calls Try.prog 53 #[.pointer (some ⟨A, 0, none⟩), .int .i64 most, .func (.func 54) #[] #[]] W fun e w' => ∃ ao L cap, e = .returned (.slice ao L cap) ∧ Qs b A B X st' wr' (fun W' => F W' ∧ W'.ownsRow b 3 1 (.slice ao L cap) ns.length (cI ns)) w' := by
  have H := readIds_any h.cr most hl
  rw [e] at H
  refine H.mono ?_
  rintro e w' ⟨ao, L, cap, rfl, hp⟩
  have h1 := Nat.le_trans h.le h.fr.size
  exact ⟨ao, L, cap, rfl, hp.out.1, h.fr.trans hp.out.2.2, h.le, fun W' hk => ⟨h.keep W' (hp.out.2.2.trans hk), own_kb (own_low hp.out.2.1 h1) hk h.cr.a_lt h.cr.b_lt⟩⟩
theorem qrowsQ {b A B : Nat} {X : World} {st st' : R} {ns : List (List UInt8)} {most : Int} {wr wr' : Bool} {F : World → Prop} {W : World} (e : rdLs rText most st wr = ((ns, st'), wr')) (hl : goS st ≤ 1000000) (h : Qs b A B X st wr F W) :
    Calls Try.prog 44 #[.pointer (some ⟨A, 0, none⟩), .int .i64 most, .func (.func 45) #[] #[]] W fun e w' => ∃ ao L cap, e = .returned (.slice ao L cap) ∧ Qs b A B X st' wr' (fun W' => F W' ∧ W'.ownsRow b 9 1 (.slice ao L cap) ns.length (cT ns)) w' := by
  have H := readRows_any h.cr most hl
  rw [e] at H
  refine H.mono ?_
  rintro e w' ⟨ao, L, cap, rfl, hp⟩
  have h1 := Nat.le_trans h.le h.fr.size
  exact ⟨ao, L, cap, rfl, hp.out.1, h.fr.trans hp.out.2.2, h.le, fun W' hk => ⟨h.keep W' (hp.out.2.2.trans hk), own_kb (own_low hp.out.2.1 h1) hk h.cr.a_lt h.cr.b_lt⟩⟩
theorem er_low {W : World} {b b' : Nat} {v : Value} {es : List Ent} (h : Er b W v es) (hb : b' ≤ b) : Er b' W v es := by
  obtain ⟨us, h1, h2, h3⟩ := h
  refine ⟨us, h1, own_low h2 hb, fun j e hj => ?_⟩
  obtain ⟨u, h4, h5⟩ := h3 j e hj
  exact ⟨u, h4, own_low h5 hb⟩
theorem qentsQ {b A B : Nat} {X : World} {st st' : R} {ns : List Ent} {most : Int} {wr wr' : Bool} {F : World → Prop} {W : World} (e : rdLs rEnt most st wr = ((ns, st'), wr')) (hl : goS st ≤ 1000000) (h : Qs b A B X st wr F W) :
    Calls Try.prog 51 #[.pointer (some ⟨A, 0, none⟩), .int .i64 most, .func (.func 52) #[] #[]] W fun e w' => ∃ ao L cap, e = .returned (.slice ao L cap) ∧ Qs b A B X st' wr' (fun W' => F W' ∧ Er b W' (.slice ao L cap) ns) w' := by
  have H := readEnts_any h.cr most hl
  rw [e] at H
  refine H.mono ?_
  rintro e w' ⟨ao, L, cap, rfl, hp⟩
  have h1 := Nat.le_trans h.le h.fr.size
  exact ⟨ao, L, cap, rfl, hp.out.1, h.fr.trans hp.out.2.2, h.le, fun W' hk => ⟨h.keep W' (hp.out.2.2.trans hk), Er.kb (er_low hp.out.2.1 h1) hk h.cr.a_lt h.cr.b_lt⟩⟩

/-- How the document's snapshot is read. -/
def rSnp (st : R) : (Snp × R) × Bool :=
  let a := rNum st
  let c := rNum a.2
  let d := rdLs rNum 9223372036854775807 c.2 false
  let e := rText d.1.2
  ((⟨a.1, c.1, d.1.1, e.1⟩, e.2), d.2)

theorem okC_t {st : R} {wr : Bool} (h : okB st wr = true) (x z : Array Value) : okC st wr x z = x := by rw [okC, h]; rfl
theorem okC_f {st : R} {wr : Bool} (h : okB st wr = false) (x z : Array Value) : okC st wr x z = z := by rw [okC, h]; rfl
theorem okN_t {st : R} {wr : Bool} (h : okB st wr = true) : okN st wr = 0 := by rw [okN, h]; rfl
theorem okN_f {st : R} {wr : Bool} (h : okB st wr = false) : okN st wr = 3 := by rw [okN, h]; rfl
theorem set4_s {A B P : Nat} {u : World} (h : Sx A B u) (hne : P ≠ A) (x y z v : Value) : Sx A B ((((u.setCell ⟨P, 0, none⟩ x).setCell ⟨P, 1, none⟩ y).setCell ⟨P, 2, none⟩ z).setCell ⟨P, 3, none⟩ v) := by
  refine Eq.trans (World.cell?_of_block (w := u) (a := ⟨A, 0, none⟩) ?_) h
  show (World.setCell _ _ _).heap[A]? = _
  rw [Below.heap_setCell _ _ _ _ (Ne.symm hne), Below.heap_setCell _ _ _ _ (Ne.symm hne), Below.heap_setCell _ _ _ _ (Ne.symm hne), Below.heap_setCell _ _ _ _ (Ne.symm hne)]
end Go.Proofs.Ytgknpbgepgmmmaa.Cm
