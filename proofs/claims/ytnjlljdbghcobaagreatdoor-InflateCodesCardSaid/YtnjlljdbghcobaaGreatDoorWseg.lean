/- InflateBlocks, walked: bytes that the law makes itself. -/
import Derived.Test.YtnjlljdbghcobaaGreatDoorIstow
import Derived.Test.YtnjlljdbghcobaaGreatDoorHback
import Derived.Test.YtnjlljdbghcobaaGreatDoorPut
import Derived.Test.YtnjlljdbghcobaaGreatDoorHcmp
import Derived.Test.YtnjlljdbghcobaaGreatDoorAppm
import Derived.Test.YtnjlljdbghcobaaGreatDoorIpst
import Derived.Deep.OwnRows

namespace Go.Proofs.YtnjlljdbghcobaaGreatDoor
set_option maxRecDepth 100000
open Go.RowKit

theorem i64_and3 (n : Int) : bits .and .i64 n 3 = n % 4 := by
  have h3 : (BitVec.ofInt 64 3).toNat = 2 ^ 2 - 1 := by decide
  have key : (BitVec.ofInt 64 n &&& BitVec.ofInt 64 3).toNat = (n % ((2 ^ 64 : Nat) : Int)).toNat % 2 ^ 2 := by
    rw [BitVec.toNat_and, BitVec.toNat_ofInt, h3, Nat.and_two_pow_sub_one_eq_mod]
  show IntKind.i64.wrap ((BitVec.ofInt 64 n &&& BitVec.ofInt 64 3).toNat : Nat) = n % 4
  rw [key, IntKind.wrap_i64]
  omega
theorem u8_some (z : Int) : ∃ m : Nat, m < 256 ∧ IntKind.u8.wrap z = (m : Int) := by
  have h : IntKind.u8.wrap z = z % 256 := IntKind.wrap_u8 z
  rw [h]
  exact ⟨(z % 256).toNat, by omega, by omega⟩
theorem sl_at {w : World} {a : Option Addr} {len cap : Nat} {bs : List Nat} (h : Sl w (.slice a len cap) bs) (i : Nat) (hi : i < len) : ∃ b off x, a = some ⟨b, off, none⟩ ∧ b < w.heap.size ∧ w.cell? ⟨b, off + i, none⟩ = some (.int .u8 ((x : Nat) : Int)) ∧ x < 256 := by
  have h8 := sl_byte h
  obtain ⟨a', len', cap', e, h1, _, _, _, h5⟩ := h
  injection e with e1 e2 _
  subst e1 e2
  obtain ⟨b, off, rfl, hb, hc⟩ := h5 (by omega)
  refine ⟨b, off, _, rfl, hb, hc i hi, ?_⟩
  rw [List.getElem?_eq_getElem (by omega)]
  exact h8 _ (List.getElem_mem _)
theorem own_cap {w : World} {base g n cap : Nat} {bs : List Nat} (h : w.ownsRow base 5 1 (.slice (some ⟨g, 0, none⟩) n cap) n (vb bs)) : n ≤ cap := by
  rcases h.2 with ⟨h, _⟩ | ⟨g2, c2, cur, h, _, _, _, h5, _⟩
  · simp at h
  · injection h with _ _ h
    omega

set_option maxHeartbeats 8000000 in
theorem blocks_beyond (kind : Int) (last : Bool) (a : Option Addr) (len cap : Nat) (most : Int) (w : World) (hg : GG w) (h : 500 < len) :
    Calls Tryz.prog 4 #[.int .i64 kind, .bool last, .slice a len cap, .int .i64 most] w fun e w' => e = .returned (.bool true) ∧ Below w.heap.size w w' := by
  have HL := Lib.hid (tail_lives (Below.refl w.heap.size w) hg)
  have d1 : decide ((500 : Int) < (len : Int)) = true := by simp; omega
  have d1' : decide (500 < len) = true := by simp; omega
  clear hg h
  go_enter Tryz.func4, Tryz.ntmps4
  go_wp2_with fail
  refine HL.out.mono ?_
  rintro e w' ⟨rfl, hb⟩
  have HB := Lib.hid hb
  clear hb HL
  go_wp2
  go_ret
  exact ⟨rfl, HB.out⟩

/-- What is behind the bytes that the law makes. -/
def Dd (w : World) (most : Int) : Prop := ∀ (W : World) (g n cap : Nat) (bs : List Nat), W.ownsRow w.heap.size 5 1 (.slice (some ⟨g, 0, none⟩) n cap) n (vb bs) → (∀ x ∈ bs, x < 256) → n ≤ 100000 → Below w.heap.size w W →
  Calls Tryz.prog 3 #[.slice (some ⟨g, 0, none⟩) n cap, .int .i64 most] W fun e w' => e = .returned (.bool true) ∧ Below w.heap.size w w'
theorem dd_any (w : World) (most : Int) (hg : GG w) : Dd w most := by
  intro W g n cap bs ho h8 hn hb
  refine (decodes_any (some ⟨g, 0, none⟩) n cap bs most W (Sl.owned ho h8 (by omega)) (own_cap ho) (hg.later hb)).mono ?_
  rintro e w' ⟨rfl, h⟩
  exact ⟨rfl, hb.trans (h.mono hb.size)⟩

set_option maxHeartbeats 8000000 in
theorem blocks_zero (kind : Int) (last : Bool) (a : Option Addr) (len cap : Nat) (bs : List Nat) (most : Int) (w : World) (hs : Sl w (.slice a len cap) bs) (hd : Dd w most) (h : len ≤ 500) (hk : bits .and .i64 kind 3 = 0) :
    Calls Tryz.prog 4 #[.int .i64 kind, .bool last, .slice a len cap, .int .i64 most] w fun e w' => e = .returned (.bool true) ∧ Below w.heap.size w w' := by
  have d1 : decide ((500 : Int) < (len : Int)) = false := by simp; omega
  have d1' : decide (500 < len) = false := by simp; omega
  obtain ⟨f, hf⟩ : ∃ f : Nat, f = if last then 1 else 0 := ⟨_, rfl⟩
  obtain ⟨lo, hlo⟩ : ∃ lo, lo = len % 256 := ⟨_, rfl⟩
  obtain ⟨hi2, hhi⟩ : ∃ hi2, hi2 = len / 256 := ⟨_, rfl⟩
  obtain ⟨nl, hnl⟩ : ∃ nl, nl = 255 - lo := ⟨_, rfl⟩
  obtain ⟨nh, hnh⟩ : ∃ nh, nh = 255 - hi2 := ⟨_, rfl⟩
  have x1 : ((len : Int) % 256) = (lo : Int) := by omega
  have x2 : ((len : Int) / 256) = (hi2 : Int) := by omega
  have x3 : bits .xor .u8 IntKind.u8.max (lo : Int) = (nl : Int) := by rw [hnl]; exact u8_not lo (by omega)
  have x4 : bits .xor .u8 IntKind.u8.max (hi2 : Int) = (nh : Int) := by rw [hnh]; exact u8_not hi2 (by omega)
  have hf1 : f ≤ 1 := by rw [hf]; split <;> omega
  have H8 : Hid (∀ x ∈ [f, lo, hi2, nl, nh] ++ bs ++ [1, 3, 0, 252, 255, 97, 98, 99], x < 256) := by
    intro x hx
    simp only [List.mem_append, List.mem_cons, List.not_mem_nil, or_false] at hx
    rcases hx with ((rfl | rfl | rfl | rfl | rfl) | hx) | hx
    · omega
    · omega
    · omega
    · omega
    · omega
    · exact sl_byte hs x hx
    · omega
  have hn0 := Has.new w (bytesObj [f, lo, hi2, nl, nh])
  have hb1 := below1 w (bytesObj [f, lo, hi2, nl, nh])
  obtain ⟨g2, p2, w2, hr2, ho2, hg2⟩ := bytes_lit (w.alloc (bytesObj [f, lo, hi2, nl, nh])) w.heap.size 0 (.slice none 0 0) [] ⟨rfl, Or.inl ⟨rfl, rfl⟩⟩ w.heap.size 5 5 [f, lo, hi2, nl, nh] 22 hn0 rfl (by decide) (by omega) (by decide) (by simp)
  have hb02 : Below w.heap.size w w2 := hb1.grown hg2 (by simp) (fun q hq => by simp [Value.ownBlock] at hq)
  obtain ⟨g3, p3, w3, hr3, ho3, hg3⟩ := bytes_more w2 w.heap.size g2 (0 + 5) p2 _ ho2 a len cap bs 22 (hs.later hb02) (by omega) (by omega) hb02.size
  have hb03 := below_app hb02 ho2 hg3 (Nat.le_refl _) hb02.size
  have HR2 := Lib.hid hr2
  have HR3 := Lib.hid hr3
  have HO3 := Lib.hid ho3
  have HB3 := Lib.hid hb03
  have HD := Lib.hid hd
  have hobj : bytesObj [f, lo, hi2, nl, nh] = .cells #[.int .u8 (f : Int), .int .u8 (lo : Int), .int .u8 (hi2 : Int), .int .u8 (bits .xor .u8 IntKind.u8.max (lo : Int)), .int .u8 (bits .xor .u8 IntKind.u8.max (hi2 : Int))] 5 (0, 0) := by rw [x3, x4]; rfl
  rw [hobj] at HR2
  clear hobj x3 x4 hr2 hr3 ho2 ho3 hg2 hg3 hb02 hb03 hb1 hn0 hlo hhi hnl hnh hs hd hf1
  cases last with
  | true =>
    obtain rfl : f = 1 := by simpa using hf
    clear hf
    go_enter Tryz.func4, Tryz.ntmps4
    go_wp2_with (at_builtin; (first | (refine wpList_append_is rfl (.tmp 27) (.tmp 45) 22 rfl _ _ _ _ rfl rfl HR2.out ?_) | (refine wpList_append_is rfl (.tmp 47) (.tmp 48) 22 rfl _ _ _ _ rfl rfl HR3.out ?_)))
    refine (abc_is _).mono ?_
    rintro e w4 ⟨rfl, hs4, hb4⟩
    have hb04 := HB3.out.trans (hb4.mono HB3.out.size)
    have ho4 := own_stays HO3.out hb4
    obtain ⟨g5, p5, w5, hr5, ho5, hg5⟩ := bytes_more w4 w.heap.size g3 _ p3 _ ho4 _ 8 8 _ 22 hs4 (by omega) (by omega) hb04.size
    have hb05 := below_app hb04 ho4 hg5 (Nat.le_refl _) hb04.size
    have HR5 := Lib.hid hr5
    have HD5 := Lib.hid (HD.out w5 g5 _ p5 _ ho5 H8.out (by omega) hb05)
    clear hs4 hb4 hb04 ho4 hr5 ho5 hg5 hb05 HR2 HR3 HO3 HB3 HD
    go_wp2_with (at_builtin; (refine wpList_append_is rfl (.tmp 49) (.tmp 50) 22 rfl _ _ _ _ rfl rfl HR5.out ?_))
    refine HD5.out.mono ?_
    rintro e w' ⟨rfl, hb⟩
    have HB := Lib.hid hb
    clear hb HD5 HR5
    go_wp2
    go_ret
    exact ⟨rfl, HB.out⟩
  | false =>
    obtain rfl : f = 0 := by simpa using hf
    clear hf
    go_enter Tryz.func4, Tryz.ntmps4
    go_wp2_with (at_builtin; (first | (refine wpList_append_is rfl (.tmp 27) (.tmp 45) 22 rfl _ _ _ _ rfl rfl HR2.out ?_) | (refine wpList_append_is rfl (.tmp 47) (.tmp 48) 22 rfl _ _ _ _ rfl rfl HR3.out ?_)))
    refine (abc_is _).mono ?_
    rintro e w4 ⟨rfl, hs4, hb4⟩
    have hb04 := HB3.out.trans (hb4.mono HB3.out.size)
    have ho4 := own_stays HO3.out hb4
    obtain ⟨g5, p5, w5, hr5, ho5, hg5⟩ := bytes_more w4 w.heap.size g3 _ p3 _ ho4 _ 8 8 _ 22 hs4 (by omega) (by omega) hb04.size
    have hb05 := below_app hb04 ho4 hg5 (Nat.le_refl _) hb04.size
    have HR5 := Lib.hid hr5
    have HD5 := Lib.hid (HD.out w5 g5 _ p5 _ ho5 H8.out (by omega) hb05)
    clear hs4 hb4 hb04 ho4 hr5 ho5 hg5 hb05 HR2 HR3 HO3 HB3 HD
    go_wp2_with (at_builtin; (refine wpList_append_is rfl (.tmp 49) (.tmp 50) 22 rfl _ _ _ _ rfl rfl HR5.out ?_))
    refine HD5.out.mono ?_
    rintro e w' ⟨rfl, hb⟩
    have HB := Lib.hid hb
    clear hb HD5 HR5
    go_wp2
    go_ret
    exact ⟨rfl, HB.out⟩

set_option maxHeartbeats 8000000 in
theorem blocks_other (kind : Int) (last : Bool) (a : Option Addr) (len cap : Nat) (bs : List Nat) (most : Int) (w : World) (hs : Sl w (.slice a len cap) bs) (hd : Dd w most) (hd0 : ∀ W, Below w.heap.size w W → Calls Tryz.prog 3 #[.slice none 0 0, .int .i64 most] W fun e w' => e = .returned (.bool true) ∧ Below w.heap.size w w') (h : len ≤ 500) (k : Nat) (hk : bits .and .i64 kind 3 = (k : Int)) (hk0 : 0 < k) (hk4 : k < 4) :
    Calls Tryz.prog 4 #[.int .i64 kind, .bool last, .slice a len cap, .int .i64 most] w fun e w' => e = .returned (.bool true) ∧ Below w.heap.size w w' := by
  have d1 : decide ((500 : Int) < (len : Int)) = false := by simp; omega
  have d1' : decide (500 < len) = false := by simp; omega
  have d2 : ((k : Int) == 0) = false := by simp; omega
  have d2' : (k == 0) = false := by simp; omega
  have HD := Lib.hid hd
  have HD0 := Lib.hid hd0
  have HS := Lib.hid hs
  have HK : Hid (k < 4) := hk4
  have hlen := hs.len.1
  have HLEN := Lib.hid hlen
  clear hd hd0 hs hlen hk0 hk4
  go_enter Tryz.func4, Tryz.ntmps4
  cases last with
  | true =>
    go_wp2_with fail
    obtain ⟨f, hf⟩ : ∃ f : Nat, (k : Int) % 256 * 2 % 256 + 1 = (f : Int) := ⟨k % 256 * 2 % 256 + 1, by omega⟩
    simp only [hf]
    clear hf
    go_loopw [10, 11] (fun s10 s11 wr => ∃ (i : Nat) (ys : List Nat), i ≤ len ∧ s11 = .int .i64 (i : Int) ∧ Hid (∀ y ∈ ys, y < 256) ∧ Hid (wr.ownsRow w.heap.size 5 1 s10 i (vb ys)) ∧ Hid (Below w.heap.size w wr)) (fun _ s _ => len - (intOf s).toNat)
    case atStart => exact ⟨0, [], Nat.zero_le _, rfl, (fun y hy => nomatch hy : ∀ y ∈ ([] : List Nat), y < 256), ⟨rfl, Or.inl ⟨rfl, rfl⟩⟩, Below.refl _ _⟩
    case round =>
      obtain ⟨i, ys, hi, rfl, K8, KO, KB⟩ := hrel
      obtain ⟨a0, c0, rfl⟩ := own_slice KO.out
      by_cases hlt : i < len
      · obtain ⟨b0, off0, x, rfl, hb0, hc, hx8⟩ := sl_at HS.out i hlt
        have hc1 := (KB.out.cell (p := ⟨b0, off0 + i, none⟩) hb0).trans hc
        have key : ∀ y : Nat, y < 256 → ∃ g3 p3 w3, Hid ((Builtin.append_ #[22, 22] 22 #[.slice a0 i c0, .slice (some ⟨wr.heap.size, 0, none⟩) 1 1]).run Tryz.prog (wr.alloc (.cells #[.int .u8 (y : Int)] 5)) = .ok (.slice (some ⟨g3, 0, none⟩) (i + 1) p3) w3) ∧
            Hid (w3.ownsRow w.heap.size 5 1 (.slice (some ⟨g3, 0, none⟩) (i + 1) p3) (i + 1) (vb (ys ++ [y]))) ∧ Hid (Below w.heap.size w w3) ∧ Hid (∀ z ∈ ys ++ [y], z < 256) := by
          intro y hy
          have hn0 := Has.new wr (bytesObj [y])
          have hb1 := below1 wr (bytesObj [y])
          obtain ⟨g3, p3, w3, hr3, ho3, hg3⟩ := bytes_lit (wr.alloc (bytesObj [y])) w.heap.size i (.slice a0 i c0) ys (KO.out.alloc _) wr.heap.size 1 1 [y] 22 hn0 rfl (by decide) (by omega) (by decide) (Nat.le_trans KB.out.size hb1.size)
          refine ⟨g3, p3, w3, hr3, ho3, below_app (KB.out.trans (hb1.mono KB.out.size)) (KO.out.alloc (bytesObj [y])) hg3 (Nat.le_refl _) (Nat.le_trans KB.out.size hb1.size), fun z hz => ?_⟩
          rcases List.mem_append.1 hz with hz | hz
          · exact K8.out z hz
          · rw [List.mem_singleton] at hz; subst hz; exact hy
        by_cases h0 : i = 0
        · subst h0
          rw [Nat.add_zero] at hc1
          obtain ⟨m1, hm1, e1⟩ : ∃ m : Nat, m < 256 ∧ bits .andNot .u8 (x : Int) 7 = (m : Int) := u8_some _
          obtain ⟨m2, hm2, e2⟩ : ∃ m : Nat, m < 256 ∧ bits .or .u8 (m1 : Int) (f : Int) = (m : Int) := u8_some _
          obtain ⟨g3, p3, w3, HR, HO, HBB, H8⟩ := key m2 hm2
          clear key hc hb0 hx8 hm1 hm2 K8 KO KB
          go_wp2_with (at_builtin; (refine wpList_append_is rfl (.tmp 68) (.tmp 70) 22 rfl _ _ _ _ rfl rfl HR.out ?_))
          go_roundw
          case rel => exact ⟨1, _, by omega, by go_num, H8, HO, HBB⟩
          case measure => simp [intOf]; omega
        · have e0 : ((i : Int) == 0) = false := by simp; omega
          have e0' : (i == 0) = false := by simp; omega
          obtain ⟨g3, p3, w3, HR, HO, HBB, H8⟩ := key x hx8
          clear key hc hb0 hx8 K8 KO KB
          go_wp2_with (at_builtin; (refine wpList_append_is rfl (.tmp 68) (.tmp 70) 22 rfl _ _ _ _ rfl rfl HR.out ?_))
          go_roundw
          case rel => exact ⟨i + 1, _, by omega, by go_num, H8, HO, HBB⟩
          case measure => simp [intOf]; omega
      · obtain rfl : i = len := by omega
        have HX : Hid (Calls Tryz.prog 3 #[.slice a0 i c0, .int .i64 most] wr fun e w' => e = .returned (.bool true) ∧ Below w.heap.size w w') := by
          rcases KO.out.2 with ⟨e, h0⟩ | ⟨g, c, _, e, _⟩
          · injection e with ea _ ec
            subst ea ec h0
            exact HD0.out wr KB.out
          · injection e with ea _ ec
            subst ea ec
            exact HD.out wr g i _ ys KO.out K8.out (by omega) KB.out
        clear K8 KO KB HD HD0
        go_wp2_with fail
        refine HX.out.mono ?_
        rintro e w' ⟨rfl, hb⟩
        have HB := Lib.hid hb
        clear hb HX
        go_wp2
        go_ret
        exact ⟨rfl, HB.out⟩
  | false =>
    go_wp2_with fail
    obtain ⟨f, hf⟩ : ∃ f : Nat, (k : Int) % 256 * 2 % 256 = (f : Int) := ⟨k % 256 * 2 % 256, by omega⟩
    simp only [hf]
    clear hf
    go_loopw [10, 11] (fun s10 s11 wr => ∃ (i : Nat) (ys : List Nat), i ≤ len ∧ s11 = .int .i64 (i : Int) ∧ Hid (∀ y ∈ ys, y < 256) ∧ Hid (wr.ownsRow w.heap.size 5 1 s10 i (vb ys)) ∧ Hid (Below w.heap.size w wr)) (fun _ s _ => len - (intOf s).toNat)
    case atStart => exact ⟨0, [], Nat.zero_le _, rfl, (fun y hy => nomatch hy : ∀ y ∈ ([] : List Nat), y < 256), ⟨rfl, Or.inl ⟨rfl, rfl⟩⟩, Below.refl _ _⟩
    case round =>
      obtain ⟨i, ys, hi, rfl, K8, KO, KB⟩ := hrel
      obtain ⟨a0, c0, rfl⟩ := own_slice KO.out
      by_cases hlt : i < len
      · obtain ⟨b0, off0, x, rfl, hb0, hc, hx8⟩ := sl_at HS.out i hlt
        have hc1 := (KB.out.cell (p := ⟨b0, off0 + i, none⟩) hb0).trans hc
        have key : ∀ y : Nat, y < 256 → ∃ g3 p3 w3, Hid ((Builtin.append_ #[22, 22] 22 #[.slice a0 i c0, .slice (some ⟨wr.heap.size, 0, none⟩) 1 1]).run Tryz.prog (wr.alloc (.cells #[.int .u8 (y : Int)] 5)) = .ok (.slice (some ⟨g3, 0, none⟩) (i + 1) p3) w3) ∧
            Hid (w3.ownsRow w.heap.size 5 1 (.slice (some ⟨g3, 0, none⟩) (i + 1) p3) (i + 1) (vb (ys ++ [y]))) ∧ Hid (Below w.heap.size w w3) ∧ Hid (∀ z ∈ ys ++ [y], z < 256) := by
          intro y hy
          have hn0 := Has.new wr (bytesObj [y])
          have hb1 := below1 wr (bytesObj [y])
          obtain ⟨g3, p3, w3, hr3, ho3, hg3⟩ := bytes_lit (wr.alloc (bytesObj [y])) w.heap.size i (.slice a0 i c0) ys (KO.out.alloc _) wr.heap.size 1 1 [y] 22 hn0 rfl (by decide) (by omega) (by decide) (Nat.le_trans KB.out.size hb1.size)
          refine ⟨g3, p3, w3, hr3, ho3, below_app (KB.out.trans (hb1.mono KB.out.size)) (KO.out.alloc (bytesObj [y])) hg3 (Nat.le_refl _) (Nat.le_trans KB.out.size hb1.size), fun z hz => ?_⟩
          rcases List.mem_append.1 hz with hz | hz
          · exact K8.out z hz
          · rw [List.mem_singleton] at hz; subst hz; exact hy
        by_cases h0 : i = 0
        · subst h0
          rw [Nat.add_zero] at hc1
          obtain ⟨m1, hm1, e1⟩ : ∃ m : Nat, m < 256 ∧ bits .andNot .u8 (x : Int) 7 = (m : Int) := u8_some _
          obtain ⟨m2, hm2, e2⟩ : ∃ m : Nat, m < 256 ∧ bits .or .u8 (m1 : Int) (f : Int) = (m : Int) := u8_some _
          obtain ⟨g3, p3, w3, HR, HO, HBB, H8⟩ := key m2 hm2
          clear key hc hb0 hx8 hm1 hm2 K8 KO KB
          go_wp2_with (at_builtin; (refine wpList_append_is rfl (.tmp 68) (.tmp 70) 22 rfl _ _ _ _ rfl rfl HR.out ?_))
          go_roundw
          case rel => exact ⟨1, _, by omega, by go_num, H8, HO, HBB⟩
          case measure => simp [intOf]; omega
        · have e0 : ((i : Int) == 0) = false := by simp; omega
          have e0' : (i == 0) = false := by simp; omega
          obtain ⟨g3, p3, w3, HR, HO, HBB, H8⟩ := key x hx8
          clear key hc hb0 hx8 K8 KO KB
          go_wp2_with (at_builtin; (refine wpList_append_is rfl (.tmp 68) (.tmp 70) 22 rfl _ _ _ _ rfl rfl HR.out ?_))
          go_roundw
          case rel => exact ⟨i + 1, _, by omega, by go_num, H8, HO, HBB⟩
          case measure => simp [intOf]; omega
      · obtain rfl : i = len := by omega
        have HX : Hid (Calls Tryz.prog 3 #[.slice a0 i c0, .int .i64 most] wr fun e w' => e = .returned (.bool true) ∧ Below w.heap.size w w') := by
          rcases KO.out.2 with ⟨e, h0⟩ | ⟨g, c, _, e, _⟩
          · injection e with ea _ ec
            subst ea ec h0
            exact HD0.out wr KB.out
          · injection e with ea _ ec
            subst ea ec
            exact HD.out wr g i _ ys KO.out K8.out (by omega) KB.out
        clear K8 KO KB HD HD0
        go_wp2_with fail
        refine HX.out.mono ?_
        rintro e w' ⟨rfl, hb⟩
        have HB := Lib.hid hb
        clear hb HX
        go_wp2
        go_ret
        exact ⟨rfl, HB.out⟩

theorem blocks_any (kind : Int) (last : Bool) (a : Option Addr) (len cap : Nat) (bs : List Nat) (most : Int) (w : World) (hs : Sl w (.slice a len cap) bs) (hg : GG w) :
    Calls Tryz.prog 4 #[.int .i64 kind, .bool last, .slice a len cap, .int .i64 most] w fun e w' => e = .returned (.bool true) ∧ Below w.heap.size w w' := by
  by_cases h : 500 < len
  · exact blocks_beyond kind last a len cap most w hg h
  · have hd := dd_any w most hg
    have hk := i64_and3 kind
    by_cases h0 : kind % 4 = 0
    · exact blocks_zero kind last a len cap bs most w hs hd (by omega) (by rw [hk, h0])
    · refine blocks_other kind last a len cap bs most w hs hd (fun W hb => ?_) (by omega) (kind % 4).toNat (by rw [hk]; omega) (by omega) (by omega)
      refine (decodes_any none 0 0 [] most W (Sl.nil W) (Nat.le_refl _) (hg.later hb)).mono ?_
      rintro e w' ⟨rfl, h⟩
      exact ⟨rfl, hb.trans (h.mono hb.size)⟩
end Go.Proofs.YtnjlljdbghcobaaGreatDoor

/- The statements' own laid: a number's bits behind a row, in the row's own memory. -/
namespace Go.Proofs.YtnjlljdbghcobaaGreatDoor
set_option maxRecDepth 100000
open Go.RowKit

/-- What is no block of bytes is as it was. -/
def NB (w w' : World) : Prop := ∀ (k : Nat) (cs : Array Value) (t : TypeId) (fr : Nat × Nat), Has w k (.cells cs t fr) → t ≠ 5 → Has w' k (.cells cs t fr)
theorem NB.refl (w : World) : NB w w := fun _ _ _ _ h _ => h
theorem NB.trans {w w1 w2 : World} (h : NB w w1) (h2 : NB w1 w2) : NB w w2 := fun k cs t fr hk ht => h2 k cs t fr (h k cs t fr hk ht) ht
theorem NB.of_below {w w' : World} (h : Below w.heap.size w w') : NB w w' := fun _ _ _ _ hk _ => hk.later h
theorem NB.drew {w w' : World} (h : NB w w') : NB w w'.drew := h
theorem NB.grown {w w' : World} {base : Nat} {s : Value} {l : List Bool} (hr : Row w base s l) (h : w.grownBy w' s.ownBlock) : NB w w' := fun _ _ _ _ hk ht => hk.grown h (fun e => (own_ne_ty hr hk ht) e.symm)
theorem NB.set {w w1 : World} (h : NB w w1) {a : Addr} (ha : w.heap.size ≤ a.block) (v : Value) : NB w (w1.setCell a v) := fun k cs t fr hk ht => (h k cs t fr hk ht).set (show k ≠ a.block by have := hk.lt; omega) v

set_option maxHeartbeats 4000000 in
theorem rlaid_any (a : Option Addr) (m cap : Nat) (l : List Bool) (N v n base : Nat) (w : World) (hr : Row w base (.slice a m cap) l) (hb : base ≤ w.heap.size) (hl : Hid (N = l.length)) (hN : N ≤ 100000) (hn : n ≤ 32) :
    Calls Tryz.prog 19 #[.agg #[.slice a m cap, .int .i64 (N : Int)], .int .i64 (v : Int), .int .i64 (n : Int)] w fun e w' => ∃ a' m' cap', e = .returned (.agg #[.slice a' m' cap', .int .i64 ((N + n : Nat) : Int)]) ∧ Row w' base (.slice a' m' cap') (l ++ Bs.bitsOf v n) ∧ Below base w w' ∧ NB w w' := by
  have hb2 := below2 w (.cells #[.slice a m cap, .int .i64 (N : Int)] 36) (.cells #[.slice none 0 0, .int .i64 0] 36)
  obtain ⟨W0, hW0⟩ : ∃ W0, (w.alloc (.cells #[.slice a m cap, .int .i64 (N : Int)] 36)).alloc (.cells #[.slice none 0 0, .int .i64 0] 36) = W0 := ⟨_, rfl⟩
  have hx : Has W0 w.heap.size (rowVar a m cap (N : Int)) := by rw [← hW0]; exact (Has.new w _).alloc _
  have hy : Has W0 (w.heap.size + 1) (rowVar none 0 0 0) := by rw [← hW0]; have := Has.new (w.alloc (.cells #[.slice a m cap, .int .i64 (N : Int)] 36)) (.cells #[.slice none 0 0, .int .i64 0] 36); simpa using this
  have hr0 : Row W0 base (.slice a m cap) (l ++ Bs.bitsOf v 0) := by
    have e : l ++ Bs.bitsOf v 0 = l := by simp [Bs.bitsOf]
    rw [e, ← hW0]
    exact World.ownsRow.alloc (World.ownsRow.alloc hr _) _
  rw [hW0] at hb2
  have HX := Lib.hid hx
  have HY := Lib.hid hy
  have HR := Lib.hid hr0
  have HB := Lib.hid hb2
  have HBS : Hid (base ≤ w.heap.size) := hb
  clear hb hx hy hr0 hr hb2
  go_enter Tryz.func19, Tryz.ntmps19
  go_wp2_with fail
  try rw [hW0]
  clear hW0
  go_loopw [7] (fun s7 wr => ∃ (i : Nat) (a : Option Addr) (m cap : Nat), i ≤ n ∧ s7 = .int .i64 (i : Int) ∧ Hid (Has wr w.heap.size (rowVar a m cap ((N + i : Nat) : Int))) ∧ Hid (Has wr (w.heap.size + 1) (rowVar none 0 0 0)) ∧ Hid (Row wr base (.slice a m cap) (l ++ Bs.bitsOf v i)) ∧ Hid (Below base w wr) ∧ Hid (NB w wr)) (fun s _ => n - (intOf s).toNat)
  case atStart => exact ⟨0, a, m, cap, Nat.zero_le _, rfl, HX.out, HY.out, HR.out, HB.out.mono HBS.out, NB.of_below HB.out⟩
  case round =>
    obtain ⟨i, a, m, cap, hi, rfl, KX, KY, KR, KB, KN⟩ := hrel
    obtain ⟨c0, c1, f0, f1⟩ := KX.out.two
    by_cases hlt : i < n
    · obtain ⟨M, hM⟩ : ∃ M, M = N + i := ⟨_, rfl⟩
      rw [← hM] at KX c1
      have HM : Hid (M = (l ++ Bs.bitsOf v i).length) := by show _ = _; rw [List.length_append, Bs.bitsOf_length, ← hl.out]; exact hM
      have HBIT := Lib.hid (bit_int v i)
      have hszr := KX.out.lt
      have hM9 : M ≤ 200000 := by omega
      have HMM := Lib.hid hM
      have hbs := HBS.out
      clear hM
      have HW := Lib.hid ((with_is a m cap (l ++ Bs.bitsOf v i) (v.testBit i) _ base M wr.drew (World.ownsRow.drew KR.out) (by show base ≤ wr.heap.size; omega) HM (by omega) (show Hid (bits .and .i64 ((v : Int) / 2 ^ i) 1 = _) from by show _ = _; rw [i64_and1]; exact HBIT.out)).mono
        (R' := fun e w4 => ∃ a' m' cap', e = .returned (.agg #[.slice a' m' cap', .int .i64 ((M : Int) + 1)]) ∧ (Has w4 w.heap.size (rowVar a m cap (M : Int)) ∧ Has ((w4.setCell ⟨w.heap.size, 0, none⟩ (.slice a' m' cap')).setCell ⟨w.heap.size, 1, none⟩ (.int .i64 ((M : Int) + 1))) w.heap.size (rowVar a' m' cap' ((M : Int) + 1)) ∧
          Row ((w4.setCell ⟨w.heap.size, 0, none⟩ (.slice a' m' cap')).setCell ⟨w.heap.size, 1, none⟩ (.int .i64 ((M : Int) + 1))) base (.slice a' m' cap') ((l ++ Bs.bitsOf v i) ++ [v.testBit i])) ∧ Below base w w4 ∧ NB w w4 ∧ Has w4 (w.heap.size + 1) (rowVar none 0 0 0)) (by
          rintro e w4 ⟨a', m', cap', rfl, hr4, hg4⟩
          have hr0 : Row wr.drew base (.slice a m cap) (l ++ Bs.bitsOf v i) := World.ownsRow.drew KR.out
          have hn := NB.grown hr0 hg4
          exact ⟨a', m', cap', rfl, var_step ((M : Int) + 1) (show Has wr.drew w.heap.size (rowVar a m cap (M : Int)) from KX.out) hr0 hr4 hg4, row_grown_below hr0 hg4 KB.out.drew (Nat.le_refl _) (by show base ≤ wr.heap.size; omega), KN.out.drew.trans hn, hn _ _ _ _ (show Has wr.drew (w.heap.size + 1) (rowVar none 0 0 0) from KY.out) (by decide)⟩))
      go_wp2_with fail
      go_region_with (go_at_call 42; refine HW.out.mono ?_; rintro e w4 ⟨a', m', cap', rfl, vs, hb4, hn4, hy4⟩; have HB4 := Lib.hid hb4; have HN4 := Lib.hid hn4; have HY4 := Lib.hid hy4; have vv := vs.1.two; have d0 := vv.1; have d1 := vv.2.1; have d2 := vv.2.2.1; have d3 := vv.2.2.2; have VS := Lib.hid vs; clear vs vv hb4 hn4 hy4)
      all_goals
        go_wp2
        go_roundw
        case rel =>
          refine ⟨i + 1, a', m', cap', by omega, by go_num, ?_, ?_, ?_, ?_, ?_⟩
          · have e : ((N + (i + 1) : Nat) : Int) = (M : Int) + 1 := by have := HMM.out; omega
            show Has _ _ _
            rw [e]
            exact VS.out.2.1
          · exact (HY4.out.set (a := ⟨w.heap.size, 0, none⟩) (by simp) _).set (a := ⟨w.heap.size, 1, none⟩) (by simp) _
          · show Row _ _ _ _
            rw [Bs.bitsOf_succ, ← List.append_assoc]
            exact VS.out.2.2
          · exact set2_below HB4.out _ HBS.out _ _
          · exact (HN4.out.set (a := ⟨w.heap.size, 0, none⟩) (Nat.le_refl _) _).set (a := ⟨w.heap.size, 1, none⟩) (Nat.le_refl _) _
        case measure => simp [intOf]; omega
    · obtain rfl : i = n := by omega
      obtain ⟨e0, e1, g0, g1⟩ := KY.out.two
      go_wp2
      refine bodyPost_ret (v := .agg #[.slice a m cap, .int .i64 ((N + i : Nat) : Int)]) (by simp [results, Tryz.results19, go_sem, e0, e1]) rfl ⟨a, m, cap, rfl, ?_, ?_, ?_⟩
      · have hne := KR.out.ne KY.out
        exact ownsRow_setCell_other (ownsRow_setCell_other KR.out hne _) hne _
      · exact set2_below KB.out _ (by have := HBS.out; omega) _ _
      · exact (KN.out.set (a := ⟨w.heap.size + 1, 0, none⟩) (Nat.le_succ _) _).set (a := ⟨w.heap.size + 1, 1, none⟩) (Nat.le_succ _) _
end Go.Proofs.YtnjlljdbghcobaaGreatDoor

/- A block of numbers. -/
namespace Go.Proofs.YtnjlljdbghcobaaGreatDoor
set_option maxRecDepth 100000
open Go.RowKit

/-- Block g holds n numbers. -/
def Rz (w : World) (g n : Nat) (d : Nat → Nat) : Prop := ∃ cs : Array Value, Has w g (.cells cs 3 (0, 0)) ∧ cs.size = n ∧ ∀ i, i < n → cs[i]? = some (.int .i64 (d i : Int))
theorem Rz.cell {w : World} {g n : Nat} {d : Nat → Nat} (h : Rz w g n d) (i : Nat) (hi : i < n) : w.cell? ⟨g, i, none⟩ = some (.int .i64 (d i : Int)) := by
  obtain ⟨cs, h1, _, h3⟩ := h
  rw [h1.cell]; exact h3 i hi
theorem Rz.free {w : World} {g n : Nat} {d : Nat → Nat} (h : Rz w g n d) (i : Nat) : w.frozen? ⟨g, i, none⟩ = false := by
  obtain ⟨cs, h1, _, _⟩ := h
  exact h1.free i
theorem Rz.lt {w : World} {g n : Nat} {d : Nat → Nat} (h : Rz w g n d) : g < w.heap.size := by obtain ⟨cs, h1, _, _⟩ := h; exact h1.lt
theorem Rz.later {w w' : World} {g n : Nat} {d : Nat → Nat} (h : Rz w g n d) (hb : Below w.heap.size w w') : Rz w' g n d := by
  obtain ⟨cs, h1, h2, h3⟩ := h
  exact ⟨cs, h1.later hb, h2, h3⟩
theorem Rz.congr {w : World} {g n : Nat} {d e : Nat → Nat} (h : Rz w g n d) (he : ∀ i, i < n → e i = d i) : Rz w g n e := by
  obtain ⟨cs, h1, h2, h3⟩ := h
  exact ⟨cs, h1, h2, fun i hi => by rw [he i hi]; exact h3 i hi⟩
theorem Rz.set {w : World} {g n : Nat} {d : Nat → Nat} (h : Rz w g n d) (p v : Nat) (hp : p < n) : Rz (w.setCell ⟨g, p, none⟩ (.int .i64 (v : Int))) g n (fun i => if i = p then v else d i) := by
  obtain ⟨cs, h1, h2, h3⟩ := h
  refine ⟨_, h1.setSelf _, by simp [h2], fun i hi => ?_⟩
  show _ = some (Value.int .i64 ((if i = p then v else d i : Nat) : Int))
  by_cases e : i = p
  · subst e
    rw [if_pos rfl]
    simp [h2, hp]
  · rw [if_neg e]
    rw [Array.getElem?_setIfInBounds_ne (by omega)]
    exact h3 i hi

theorem madeRz (w : World) (n : Nat) : Rz (w.alloc (.cells (madeCells #[Value.int .i64 0] n) 3)) w.heap.size n (fun _ => 0) := by
  refine ⟨_, Has.new w _, ?_, fun i hi => ?_⟩
  · simp [madeCells]
  · simp [madeCells, hi, Nat.mod_one]

end Go.Proofs.YtnjlljdbghcobaaGreatDoor

/- Rows that were written, as they are read: numbers, codes, tokens, blocks. Plain facts. -/
namespace Go.Proofs.YtnjlljdbghcobaaGreatDoor
set_option maxRecDepth 100000
namespace If
open Hd (num rd head)

/-- A row has these bits at a place. -/
def Sg (l : List Bool) (p : Nat) (s : List Bool) : Prop := ∃ pre post, pre.length = p ∧ l = pre ++ (s ++ post)
theorem Sg.left {l : List Bool} {p : Nat} {a b : List Bool} (h : Sg l p (a ++ b)) : Sg l p a := by
  obtain ⟨x, y, e1, e2⟩ := h
  exact ⟨x, b ++ y, e1, by rw [e2, List.append_assoc]⟩
theorem Sg.right {l : List Bool} {p : Nat} {a b : List Bool} (h : Sg l p (a ++ b)) : Sg l (p + a.length) b := by
  obtain ⟨x, y, e1, e2⟩ := h
  exact ⟨x ++ a, y, by rw [List.length_append, e1], by rw [e2, List.append_assoc, List.append_assoc]⟩
theorem Sg.le {l : List Bool} {p : Nat} {s : List Bool} (h : Sg l p s) : p + s.length ≤ l.length := by
  obtain ⟨x, y, e1, e2⟩ := h
  rw [e2, List.length_append, List.length_append]; omega
theorem Sg.num {l : List Bool} {p : Nat} {s : List Bool} (h : Sg l p s) : Hd.num l p s.length = Bs.num s := by
  obtain ⟨x, y, e1, e2⟩ := h
  subst e2
  unfold Hd.num
  rw [← e1, List.drop_left, List.take_left]
theorem Sg.bits {l : List Bool} {p v n : Nat} (h : Sg l p (Bs.bitsOf v n)) (hv : v < 2 ^ n) : Hd.num l p n = v := by
  have := h.num
  rwa [Bs.bitsOf_length, Bs.num_bitsOf v n hv] at this
theorem Sg.room {l : List Bool} {p v n : Nat} (h : Sg l p (Bs.bitsOf v n)) : p + n ≤ l.length := by
  have := h.le
  rwa [Bs.bitsOf_length] at this
theorem Sg.whole (l z : List Bool) : Sg (l ++ z) 0 l := ⟨[], z, rfl, rfl⟩

theorem ln_zz (ls : List Nat) (x : Nat) : (Hd.zz ls)[x]?.getD 0 = ((Hf.ln ls x : Nat) : Int) := Hd.zz_get ls x

/-- A code that stands is read. -/
theorem Sg.rd {ls : List Nat} {l : List Bool} {p x : Nat} (hf : Fit (Hd.zz ls)) (h2 : Hf.ln ls x ≠ 0) (h : Sg l p (cw ls x)) : Hd.rd ls l p = (x, p + Hf.ln ls x, 0) := by
  obtain ⟨pre, post, rfl, e⟩ := h
  have h1 : x < ls.length := by
    rcases Nat.lt_or_ge x ls.length with h | h
    · exact h
    · exact absurd (by unfold Hf.ln; rw [List.getElem?_eq_none h]; rfl) h2
  obtain ⟨kk, e1, e2, e3, e4⟩ := code_hit hf l pre post x (by rw [Hd.zz_length]; exact h1) (by rw [ln_zz]; omega) (by rw [Hd.nat_zz]; exact e)
  rw [Hd.nat_zz] at e1 e2 e3 e4
  have := Hd.rd_is (Hf.rd_hit e2 e3 e4)
  rw [e1] at this
  exact this

/-! ### Tokens -/

/-- What stands of a token. -/
def tokRow (lit dist : List Nat) (t : Tk) : List Bool :=
  if t.len = 0 then cw lit t.lit else
  (cw lit (257 + Sy.lk t.len) ++ Bs.bitsOf (t.len - Sy.at' Sy.lf (Sy.lk t.len)) (Sy.at' Sy.lb (Sy.lk t.len))) ++ (cw dist (Sy.dk t.far) ++ Bs.bitsOf (t.far - Sy.at' Sy.df (Sy.dk t.far)) (Sy.at' Sy.db (Sy.dk t.far)))
def toksRow (lit dist : List Nat) (ts : List Tk) : List Bool := (ts.map (tokRow lit dist)).flatten
theorem toksRow_cons (lit dist : List Nat) (t : Tk) (ts : List Tk) : toksRow lit dist (t :: ts) = tokRow lit dist t ++ toksRow lit dist ts := rfl
theorem toksRow_snoc (lit dist : List Nat) (t : Tk) (ts : List Tk) : toksRow lit dist (ts ++ [t]) = toksRow lit dist ts ++ tokRow lit dist t := by simp [toksRow]

/-- All that a token needs has a code. -/
def Has1 (lit dist : List Nat) (t : Tk) : Prop := if t.len = 0 then Hf.ln lit t.lit ≠ 0 else Hf.ln lit (257 + Sy.lk t.len) ≠ 0 ∧ Hf.ln dist (Sy.dk t.far) ≠ 0

theorem lsym_lt (n : Nat) (h1 : 3 ≤ n) (h2 : n ≤ 258) : n - Sy.at' Sy.lf (Sy.lk n) < 2 ^ Sy.at' Sy.lb (Sy.lk n) := by
  obtain ⟨h3, h4, h5⟩ := Sy.lk_has n h1
  generalize Sy.lk n = k at h3 h4 h5 ⊢
  rcases Nat.lt_or_ge k 27 with h6 | h6
  · have := Sy.lf_next k h6
    have := h5 (by omega)
    omega
  · rcases Nat.lt_or_ge k 28 with h7 | h7
    · obtain rfl : k = 27 := by omega
      have := h5 h7
      have e1 : Sy.at' Sy.lf 27 = 227 := by decide
      have e2 : Sy.at' Sy.lb 27 = 5 := by decide
      have e3 : Sy.at' Sy.lf (27 + 1) = 258 := by decide
      rw [e1, e2]; omega
    · obtain rfl : k = 28 := by omega
      have e1 : Sy.at' Sy.lf 28 = 258 := by decide
      have e2 : Sy.at' Sy.lb 28 = 0 := by decide
      rw [e1, e2]; omega
theorem dsym_lt (n : Nat) (h : 1 ≤ n) (h2 : n ≤ 32768) : n - Sy.at' Sy.df (Sy.dk n) < 2 ^ Sy.at' Sy.db (Sy.dk n) := by
  obtain ⟨h3, h4, h5⟩ := Sy.dk_has n h
  generalize Sy.dk n = k at h3 h4 h5 ⊢
  rcases Nat.lt_or_ge k 29 with h6 | h6
  · have := Sy.df_next k h6
    have := h5 h6
    omega
  · obtain rfl : k = 29 := by omega
    have e1 : Sy.at' Sy.df 29 = 24577 := by decide
    have e2 : Sy.at' Sy.db 29 = 13 := by decide
    rw [e1, e2]; omega

theorem ln_mem {ls : List Nat} {x : Nat} (h : Hf.ln ls x ≠ 0) : ¬ ∀ y ∈ ls, y = 0 := by
  intro h0
  rcases Nat.lt_or_ge x ls.length with hx | hx
  · apply h
    unfold Hf.ln
    rw [List.getElem?_eq_getElem hx]
    exact h0 _ (List.getElem_mem hx)
  · apply h
    unfold Hf.ln
    rw [List.getElem?_eq_none hx]
    rfl

/-- A copy that stands is told. -/
theorem copy_told {dist : List Nat} {l : List Bool} {p most n far : Nat} {out : List Nat} (hf : Fit (Hd.zz dist)) (h1 : 3 ≤ n) (h2 : n ≤ 258) (h3 : 1 ≤ far) (h4 : far ≤ 32768) (h5 : far ≤ out.length) (h6 : out.length + n ≤ most) (hd : Hf.ln dist (Sy.dk far) ≠ 0)
    (h : Sg l p (Bs.bitsOf (n - Sy.at' Sy.lf (Sy.lk n)) (Sy.at' Sy.lb (Sy.lk n)) ++ (cw dist (Sy.dk far) ++ Bs.bitsOf (far - Sy.at' Sy.df (Sy.dk far)) (Sy.at' Sy.db (Sy.dk far))))) :
    copy l dist most (257 + Sy.lk n) p out = (cp far n out, p + Sy.at' Sy.lb (Sy.lk n) + Hf.ln dist (Sy.dk far) + Sy.at' Sy.db (Sy.dk far), 0) := by
  have g1 := Sy.lk_has n h1
  have g2 := Sy.dk_has far h3
  have a1 := h.left
  have a2 := h.right
  rw [Bs.bitsOf_length] at a2
  have a3 := a2.left
  have a4 := a2.right
  rw [cw_len] at a4
  have e1 := a1.bits (lsym_lt n h1 h2)
  have e2 := a4.bits (dsym_lt far h3 h4)
  have r1 := a1.room
  have r2 := a4.room
  have e3 := a3.rd hf hd
  unfold copy
  rw [show 257 + Sy.lk n - 257 = Sy.lk n by omega, e3]
  simp only
  rw [if_neg (by omega), if_neg (by omega), if_neg (ln_mem hd), if_neg (by simp), if_neg (by omega), if_neg (by omega), e1, e2, if_neg (by omega), if_neg (by omega)]
  rw [show Sy.at' Sy.df (Sy.dk far) + (far - Sy.at' Sy.df (Sy.dk far)) = far by omega, show Sy.at' Sy.lf (Sy.lk n) + (n - Sy.at' Sy.lf (Sy.lk n)) = n by omega]

/-- Tokens behind n bytes, one by one, with most in all. -/
def TV (most : Nat) : List Tk → Nat → Prop
  | [], _ => True
  | t :: ts, n => Val t n ∧ n + sz t ≤ most ∧ TV most ts (n + sz t)

/-- Symbols that stand are told, up to the end. -/
theorem syms_is {lit dist : List Nat} {l : List Bool} {most : Nat} (hf : Fit (Hd.zz lit)) (hd : (∃ t : Tk, t.len ≠ 0) → Fit (Hd.zz dist) ∨ ∀ x, Hf.ln dist x = 0) (he : Hf.ln lit 256 ≠ 0) :
    ∀ (ts : List Tk) (k : Nat) (out : List Nat) (p : Nat), (∀ t ∈ ts, Has1 lit dist t) → TV most ts out.length → ts.length < k → Sg l p (toksRow lit dist ts ++ cw lit 256) →
    syms l lit dist most k out p = (ts.foldl tell1 out, p + (toksRow lit dist ts).length + Hf.ln lit 256, 0)
  | [], 0, _, _, _, _, h, _ => by simp at h
  | [], k + 1, out, p, _, _, _, h => by
    have e := h.rd hf he
    simp only [syms]
    rw [e]
    simp only
    rw [if_neg (by simp), if_pos trivial]
    rfl
  | t :: ts, 0, _, _, _, _, h, _ => by simp at h
  | t :: ts, k + 1, out, p, h1, h2, h3, h => by
    obtain ⟨v1, v2, v3⟩ := h2
    rw [toksRow_cons, List.append_assoc] at h
    have b1 := h.left
    have b2 := h.right
    have u1 := h1 t (List.mem_cons_self ..)
    have ih := syms_is hf hd he ts k (tell1 out t) (p + (tokRow lit dist t).length) (fun x hx => h1 x (List.mem_cons_of_mem _ hx)) (by rw [tell1_length]; exact v3) (by simpa using h3) b2
    rw [List.foldl_cons, toksRow_cons, List.length_append]
    rw [show p + ((tokRow lit dist t).length + (toksRow lit dist ts).length) + Hf.ln lit 256 = p + (tokRow lit dist t).length + (toksRow lit dist ts).length + Hf.ln lit 256 by omega, ← ih]
    unfold Has1 at u1
    unfold tokRow at b1 ⊢
    unfold tell1
    by_cases h0 : t.len = 0
    · rw [if_pos h0] at u1 b1 ⊢
      rw [if_pos h0]
      have e := b1.rd hf u1
      have hb : t.lit < 256 := by
        rcases v1.1 with hb | hc
        · exact hb.2.2
        · have := hc.2.1; omega
      have hs : sz t = 1 := by unfold sz; rw [if_pos h0]
      simp only [syms]
      rw [e]
      simp only
      rw [if_neg (by simp), if_neg (by omega), if_neg (by omega), if_neg (by omega), cw_len]
    · rw [if_neg h0] at u1 b1 ⊢
      rw [if_neg h0]
      have hc : Cop t := by
        rcases v1.1 with hb | hc
        · exact absurd hb.1 h0
        · exact hc
      obtain ⟨_, c1, c2, c3, c4⟩ := hc
      have hs : sz t = t.len := by unfold sz; rw [if_neg h0]
      have fd : Fit (Hd.zz dist) := by
        rcases hd ⟨t, h0⟩ with h | h
        · exact h
        · exact absurd (h _) u1.2
      have b0 := b1
      rw [List.append_assoc] at b1
      have e := b1.left.rd hf u1.1
      have b3 := b1.right
      rw [cw_len] at b3
      have ec := copy_told (most := most) fd c1 c2 c3 c4 v1.2 (by omega) u1.2 b3
      simp only [syms]
      rw [e]
      simp only
      rw [if_neg (by simp), if_neg (by omega), if_pos (by omega), ec]
      simp only
      rw [if_neg (by simp)]
      congr 1
      simp only [List.length_append, cw_len, Bs.bitsOf_length]
      omega
end If
end Go.Proofs.YtnjlljdbghcobaaGreatDoor
