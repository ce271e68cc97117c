import Derived.Test.YtgjomknpjigkhaaGreatDoorR48
namespace Go.Proofs.YtgjomknpjigkhaaGreatDoor
section
open Go.RowKit Go.Shelf
attribute [local go_sem] Oper.semAt_some
set_option maxRecDepth 100000 in
set_option maxHeartbeats 4000000 in
theorem reached_calls (w:World) (c:Int) (c0:-9223372036854775808≤c) (c1:c≤9223372036854775807) {av:Option Addr} {es:List Int} {cap:Nat} (he:IntsIn w av es):Calls Tryz.prog 11 #[.int .i64 c,.slice av es.length cap] w fun e w'=>e = .returned (.bool true)∧Keeps [] w w':=by
 have hwk:=hide (works_calls w)
 have hpk:=hide (fun (W:World)=>pick30_calls (w:=W) c 8 c0 c1 (by decide))
 obtain ⟨n0,n1⟩:=pk3_range c (n:=8) (by decide)
 obtain ⟨m,hm⟩:=Int.eq_ofNat_of_zero_le n0
 rw [hm] at n1
 have hm8:m < 8:=by omega
 rw [hm] at hpk
 clear n0 n1 hm c0 c1
 have e0:({ data:=#[100,111,109,32,100,32] }:ByteArray) = ba [100,111,109,32,100,32]:=rfl
 have e1:({ data:=#[59,32,114,101,108,32,101,40,100,44,32,100,41,59,32,114,101,108,32,110,40,100,41,59,32,114,101,108,32,112,40,100,44,32,100,41,59,32,114,101,108,32,110,111,40,100,44,32,100,41,59,10] }:ByteArray) = ba [59,32,114,101,108,32,101,40,100,44,32,100,41,59,32,114,101,108,32,110,40,100,41,59,32,114,101,108,32,112,40,100,44,32,100,41,59,32,114,101,108,32,110,111,40,100,44,32,100,41,59,10]:=rfl
 have e2:({ data:=([112,40,88,44,32,89,41,32,58,45,32,101,40,88,44,32,89,41,46,32,112,40,88,44,32,90,41,32,58,45,32,112,40,88,44,32,89,41,44,32,101].append [40,89,44,32,90,41,46,32,110,111,40,88,44,32,89,41,32,58,45,32,110,40,88,41,44,32,110,40,89,41,44,32,33,112,40,88,44,32,89,41,46,10]).toArray }:ByteArray) = ba ([112,40,88,44,32,89,41,32,58,45,32,101,40,88,44,32,89,41,46,32,112,40,88,44,32,90,41,32,58,45,32,112,40,88,44,32,89,41,44,32,101] ++ [40,89,44,32,90,41,46,32,110,111,40,88,44,32,89,41,32,58,45,32,110,40,88,41,44,32,110,40,89,41,44,32,33,112,40,88,44,32,89,41,46,10]):=rfl
 have e3:({ data:=#[110,40] }:ByteArray) = ba [110,40]:=rfl
 have e4:({ data:=#[41,46,32] }:ByteArray) = ba [41,46,32]:=rfl
 have e5:({ data:=#[101,40] }:ByteArray) = ba [101,40]:=rfl
 have e6:({ data:=#[44,32] }:ByteArray) = ba [44,32]:=rfl
 have e7:({ data:=#[112] }:ByteArray) = ba [112]:=rfl
 have e8:({ data:=#[110,111] }:ByteArray) = ba [110,111]:=rfl
 go_enter Tryz.func11,Tryz.ntmps11
 simp only [e0,e1,e2,e3,e4,e5,e6,e7,e8]
 have hit:=hide (fun (W:World)=>itoa_calls ((m + 1:Nat):Int) (by omega) (by omega) W)
 rw [decG_dg (by omega)] at hit
 generalize hc0:ba [100,111,109,32,100,32] = t0 at *
 generalize hc1:ba [59,32,114,101,108,32,101,40,100,44,32,100,41,59,32,114,101,108,32,110,40,100,41,59,32,114,101,108,32,112,40,100,44,32,100,41,59,32,114,101,108,32,110,111,40,100,44,32,100,41,59,10] = t1 at *
 generalize hc2:ba ([112,40,88,44,32,89,41,32,58,45,32,101,40,88,44,32,89,41,46,32,112,40,88,44,32,90,41,32,58,45,32,112,40,88,44,32,89,41,44,32,101] ++ [40,89,44,32,90,41,46,32,110,111,40,88,44,32,89,41,32,58,45,32,110,40,88,41,44,32,110,40,89,41,44,32,33,112,40,88,44,32,89,41,46,10]) = t2 at *
 generalize hc3:ba [110,40] = t3 at *
 generalize hc4:ba [41,46,32] = t4 at *
 generalize hc5:ba [101,40] = t5 at *
 generalize hc6:ba [44,32] = t6 at *
 generalize hc7:ba [112] = t7 at *
 generalize hc8:ba [110,111] = t8 at *
 clear e0 e1 e2 e3 e4 e5 e6 e7 e8
 go_wp2_with fail
 refine hwk.out.mono ?_
 rintro e W1 ⟨rfl,k1⟩
 go_wp2_with fail
 refine (hpk.out _).mono ?_
 rintro e W2 ⟨rfl,rfl⟩
 go_wp2_with fail
 have hk:1 + (m:Int) = ((m + 1:Nat):Int):=by omega
 simp only [hk]
 generalize hkm:m + 1 = k at *
 have hk8:k≤8:=by omega
 have hk1:1≤k:=by omega
 clear hk hkm hm8
 refine (hit.out _).mono ?_
 rintro e W3 ⟨rfl,rfl⟩
 have z0:t0.size = 6:=by rw [← hc0];rfl
 have z1:t1.size = 52:=by rw [← hc1];rfl
 have z2:t2.size = 83:=by rw [← hc2];rfl
 have z9:=dgB_size k
 have hst:=txA_start k
 rw [hc0,hc1,hc2] at hst
 generalize dgB k = tk at *
 have Hc0:=hide hc0
 have Hc1:=hide hc1
 have Hc2:=hide hc2
 have Hc3:=hide hc3
 have Hc4:=hide hc4
 have Hc5:=hide hc5
 have Hc6:=hide hc6
 have Hc7:=hide hc7
 have Hc8:=hide hc8
 have Hst:=hide hst
 clear hc0 hc1 hc2 hc3 hc4 hc5 hc6 hc7 hc8 hst
 have hF0:=far_zero W3
 have kF:=Keeps.alloc [] W3 (.cells #[.int .i64 0,.int .i64 0,.int .i64 0,.int .i64 0,.int .i64 0,.int .i64 0,.int .i64 0,.int .i64 0,.int .i64 0,.int .i64 0,.int .i64 0,.int .i64 0,.int .i64 0,.int .i64 0,.int .i64 0,.int .i64 0,.int .i64 0,.int .i64 0,.int .i64 0,.int .i64 0,.int .i64 0,.int .i64 0,.int .i64 0,.int .i64 0,.int .i64 0,.int .i64 0,.int .i64 0,.int .i64 0,.int .i64 0,.int .i64 0,.int .i64 0,.int .i64 0,.int .i64 0,.int .i64 0,.int .i64 0,.int .i64 0,.int .i64 0,.int .i64 0,.int .i64 0,.int .i64 0,.int .i64 0,.int .i64 0,.int .i64 0,.int .i64 0,.int .i64 0,.int .i64 0,.int .i64 0,.int .i64 0,.int .i64 0,.int .i64 0,.int .i64 0,.int .i64 0,.int .i64 0,.int .i64 0,.int .i64 0,.int .i64 0,.int .i64 0,.int .i64 0,.int .i64 0,.int .i64 0,.int .i64 0,.int .i64 0,.int .i64 0,.int .i64 0] 69)
 go_wp2_with fail
 have hF1:=hide (hF0)
 have kF1:=hide (k1.trans kF)
 generalize W3.alloc (.cells #[.int .i64 0,.int .i64 0,.int .i64 0,.int .i64 0,.int .i64 0,.int .i64 0,.int .i64 0,.int .i64 0,.int .i64 0,.int .i64 0,.int .i64 0,.int .i64 0,.int .i64 0,.int .i64 0,.int .i64 0,.int .i64 0,.int .i64 0,.int .i64 0,.int .i64 0,.int .i64 0,.int .i64 0,.int .i64 0,.int .i64 0,.int .i64 0,.int .i64 0,.int .i64 0,.int .i64 0,.int .i64 0,.int .i64 0,.int .i64 0,.int .i64 0,.int .i64 0,.int .i64 0,.int .i64 0,.int .i64 0,.int .i64 0,.int .i64 0,.int .i64 0,.int .i64 0,.int .i64 0,.int .i64 0,.int .i64 0,.int .i64 0,.int .i64 0,.int .i64 0,.int .i64 0,.int .i64 0,.int .i64 0,.int .i64 0,.int .i64 0,.int .i64 0,.int .i64 0,.int .i64 0,.int .i64 0,.int .i64 0,.int .i64 0,.int .i64 0,.int .i64 0,.int .i64 0,.int .i64 0,.int .i64 0,.int .i64 0,.int .i64 0,.int .i64 0] 69) = W4 at *
 have hgs:w.heap.size≤W3.heap.size:=k1.size
 generalize W3.heap.size = g at *
 clear hF0 kF z0 z1 z2 z9
 rw [Hst.out]
 have z3:t3.size = 2:=by rw [← Hc3.out];rfl
 have z4:t4.size = 3:=by rw [← Hc4.out];rfl
 go_loopw [7,9] (fun x y wr=>∃ (i:Nat),x = .string (txA k i)∧y = .int .i64 i∧i≤k∧Hid (FarAt wr g (fun _ _=>0))∧Hid (Keeps [] w wr)) (fun _ y _=>((k:Int) - intOf y).toNat)
 case atStart=>exact ⟨0,rfl,rfl,by omega,hF1,kF1⟩
 case round=>
  obtain ⟨i,rfl,rfl,hi,hF,hK⟩:=hrel
  by_cases hil:i < k
  ·have hiI:(i:Int) < k:=by omega
   have hit:=hide (fun (W:World)=>itoa_calls ((i:Nat):Int) (by omega) (by omega) W)
   rw [decG_dg (by omega)] at hit
   have z9:=dgB_size i
   have z5:=txA_size k i
   have hnx:=txA_next k i
   rw [Hc3.out,Hc4.out] at hnx
   have Hnx:=hide hnx
   generalize dgB i = ti at *
   generalize txA k i = tt at *
   generalize htn:txA k (i + 1) = tn at *
   have Htn:=hide htn
   clear hnx htn
   go_wp2_with fail
   refine (hit.out _).mono ?_
   rintro e w5 ⟨rfl,rfl⟩
   go_wp2_with fail
   exact ⟨⟨i + 1,by rw [Hnx.out,Htn.out],by simp,by omega,hF,hK⟩,by simp only [intOf];omega⟩
  ·have hiI:¬ (i:Int) < k:=by omega
   obtain rfl:k = i:=by omega
   have z5:t5.size = 2:=by rw [← Hc5.out];rfl
   have z6:t6.size = 2:=by rw [← Hc6.out];rfl
   rename World=>wo
   rw [txB_start]
   go_wp2_with fail
   clear hit z3
   go_loopw [7,10] (fun x y wr=>∃ (i:Nat) (ed:List (Nat × Nat)) (f:Nat→Nat→Nat),x = .string (txB k ed)∧y = .int .i64 i∧i≤es.length∧i≤30∧ed.length≤i∧Hid (∀ e ∈ ed,e.1 < k∧e.2 < k)∧Hid (∀ x y,f x y = if (x,y) ∈ ed then 1 else 0)∧FarAt wr g f∧Keeps [] w wr) (fun _ y _=>((es.length:Int) - intOf y).toNat)
   case atStart=>exact ⟨0,[],fun _ _=>0,rfl,rfl,by omega,by omega,by simp,hide (by simp),hide (fun x y=>by simp),hF.out,hK.out⟩
   case round=>
    obtain ⟨i,ed,f,rfl,rfl,hi,hi30,hed,hek,hfe,hF,hK⟩:=hrel
    by_cases hil:i < es.length∧i < 30
    ·obtain ⟨hil,hi3⟩:=hil
     have hiI:(i:Int) < es.length:=by omega
     have hi3I:(i:Int) < 30:=by omega
     obtain ⟨x,hx⟩:∃ x,es[i]? = some x:=⟨_,List.getElem?_eq_getElem hil⟩
     obtain ⟨x0,x1,_⟩:=he i x hx
     obtain ⟨ad,rfl,q0⟩:=he.at hK hx
     have hpa:=hide (fun (W:World)=>pick30_calls (w:=W) x k x0 x1 (by omega))
     have hpb:=hide (fun (W:World)=>pick30_calls (w:=W) (x.tdiv k) k (tdiv_small hk1 x0 x1).1 (tdiv_small hk1 x0 x1).2 (by omega))
     obtain ⟨a,ha,hak⟩:∃ a:Nat,pk3 x k = a∧a < k:=by
      obtain ⟨n0,n1⟩:=pk3_range x (n:=k) (by omega)
      exact ⟨(pk3 x k).toNat,by omega,by omega⟩
     obtain ⟨b,hb,hbk⟩:∃ b:Nat,pk3 (x.tdiv k) k = b∧b < k:=by
      obtain ⟨n0,n1⟩:=pk3_range (x.tdiv k) (n:=k) (by omega)
      exact ⟨(pk3 (x.tdiv k) k).toNat,by omega,by omega⟩
     rw [ha] at hpa
     rw [hb] at hpb
     have hk0:¬ (k:Int) = 0:=by omega
     have q1:=hF.cell (a:=a) (b:=b) (by omega) (by omega)
     have fz:=hF.frozen (a * 8 + b)
     have haI:(a:Int) < 8:=by omega
     have hbI:(b:Int) < 8:=by omega
     clear ha hb hx
     by_cases hab:(a,b) ∈ ed
     ·have e1:f a b = 1:=by rw [hfe.out,if_pos hab]
      rw [e1] at q1
      clear e1
      go_wp2_with fail
      refine (hpa.out _).mono ?_
      rintro e w5 ⟨rfl,rfl⟩
      go_wp2_with fail
      refine (hpb.out _).mono ?_
      rintro e w6 ⟨rfl,rfl⟩
      go_wp2_with fail
      exact ⟨⟨i + 1,ed,f,rfl,by simp,by omega,by omega,by omega,hek,hfe,hF,hK⟩,by simp only [intOf];omega⟩
     ·have e1:f a b = 0:=by rw [hfe.out,if_neg hab]
      rw [e1] at q1
      have hita:=hide (fun (W:World)=>itoa_calls ((a:Nat):Int) (by omega) (by omega) W)
      rw [decG_dg (by omega)] at hita
      have hitb:=hide (fun (W:World)=>itoa_calls ((b:Nat):Int) (by omega) (by omega) W)
      rw [decG_dg (by omega)] at hitb
      have z7:=dgB_size a
      have z8:=dgB_size b
      have z9:=txB_size k ed
      have hnx:=txB_next k ed a b
      rw [Hc5.out,Hc6.out,Hc4.out] at hnx
      have Hset:=hide (hF.setK hK hgs (a:=a) (b:=b) (by omega) (by omega) 1)
      have HNx:=hide hnx
      generalize dgB a = ta at *
      generalize dgB b = tb at *
      generalize txB k ed = tt at *
      have hfe2:∀ x y,updF f a b 1 x y = if (x,y) ∈ ed ++ [(a,b)] then 1 else 0:=fun x y=>by
       unfold updF
       by_cases q:x = a∧y = b
       ·rw [if_pos q,if_pos (by simp [q.1,q.2])]
       ·rw [if_neg q,hfe.out]
        have:((x,y) ∈ ed ++ [(a,b)]) = ((x,y) ∈ ed):=by simp;intro q1 q2;exact absurd ⟨q1,q2⟩ q
        simp only [this]
      have Hfe2:=hide hfe2
      have hek2:∀ e ∈ ed ++ [(a,b)],e.1 < k∧e.2 < k:=fun e he=>by
       simp only [List.mem_append,List.mem_singleton] at he
       rcases he with he | rfl
       ·exact hek.out e he
       ·exact ⟨hak,hbk⟩
      have Hek2:=hide hek2
      have hl2:(ed ++ [(a,b)]).length = ed.length + 1:=by simp
      generalize hed2:ed ++ [(a,b)] = ed2 at *
      clear e1 hnx hfe2 hek2 hab hed2
      go_wp2_with fail
      refine (hpa.out _).mono ?_
      rintro e w5 ⟨rfl,rfl⟩
      go_wp2_with fail
      refine (hpb.out _).mono ?_
      rintro e w6 ⟨rfl,rfl⟩
      go_wp2_with fail
      refine (hita.out _).mono ?_
      rintro e w7 ⟨rfl,rfl⟩
      go_wp2_with fail
      refine (hitb.out _).mono ?_
      rintro e w8 ⟨rfl,rfl⟩
      go_wp2_with fail
      exact ⟨⟨i + 1,ed2,updF f a b 1,by rw [HNx.out],by simp,by omega,by omega,by omega,Hek2,Hfe2,Hset.out.1,Hset.out.2⟩,by simp only [intOf];omega⟩
    ·have hcs:¬ (i:Int) < es.length∨((i:Int) < es.length∧¬ (i:Int) < 30):=by omega
     have hl30:ed.length≤30:=by omega
     have hfw:FwInv (fun a b=>(a,b) ∈ ed) k f 0 0 0:=FwInv.start (fun x y=>by
      rw [hfe.out]
      by_cases q:(x,y) ∈ ed
      ·rw [if_pos q];exact ⟨fun _=>⟨rfl,q⟩,fun _=>rfl⟩
      ·rw [if_neg q];exact ⟨fun h=>by omega,fun h=>absurd h q⟩)
     have hfb:∀ x y,f x y≤2 ^ 0:=fun x y=>by rw [hfe.out];split <;> simp
     have Hfw:=hide hfw
     have Hfb:=hide hfb
     rename World=>wo2
     clear hfw hfb hfe hil z4 z5 z6
     rcases hcs with hc1 | ⟨hc1,hc2⟩
     all_goals
      go_wp2_with fail
      go_loopw [13] (fun y wr=>∃ (q:Nat) (f:Nat→Nat→Nat),y = .int .i64 q∧q≤k∧Hid (FwInv (fun a b=>(a,b) ∈ ed) k f q 0 0)∧Hid (∀ x y,f x y≤2 ^ q)∧FarAt wr g f∧Keeps [] w wr) (fun y _=>((k:Int) - intOf y).toNat)
      case atStart=>exact ⟨0,f,rfl,by omega,Hfw,Hfb,hF,hK⟩
      case round=>
       clear hF hK Hfw Hfb
       obtain ⟨q,f,rfl,hq,hfw,hfb,hF,hK⟩:=hrel
       by_cases hqk:q < k
       ·have hqI:(q:Int) < k:=by omega
        have hq8:(q:Int) < 8:=by omega
        rename World=>wo3
        go_wp2_with fail
        go_loopw [14] (fun y wr=>∃ (a:Nat) (f:Nat→Nat→Nat),y = .int .i64 a∧a≤k∧Hid (FwInv (fun a b=>(a,b) ∈ ed) k f q a 0)∧Hid (FwB f q)∧FarAt wr g f∧Keeps [] w wr) (fun y _=>((k:Int) - intOf y).toNat)
        case atStart=>exact ⟨0,f,rfl,by omega,hfw,hide (FwB.start hfb.out),hF,hK⟩
        case round=>
         clear hF hK hfw hfb
         obtain ⟨a,f,rfl,ha,hfw,hfb,hF,hK⟩:=hrel
         by_cases hak:a < k
         ·have haI:(a:Int) < k:=by omega
          have ha8:(a:Int) < 8:=by omega
          rename World=>wo4
          go_wp2_with fail
          go_loopw [15] (fun y wr=>∃ (b:Nat) (f:Nat→Nat→Nat),y = .int .i64 b∧b≤k∧Hid (FwInv (fun a b=>(a,b) ∈ ed) k f q a b)∧Hid (FwB f q)∧FarAt wr g f∧Keeps [] w wr) (fun y _=>((k:Int) - intOf y).toNat)
          case atStart=>exact ⟨0,f,rfl,by omega,hfw,hfb,hF,hK⟩
          case round=>
           clear hF hK hfw hfb
           obtain ⟨b,f,rfl,hb,hfw,hfb,hF,hK⟩:=hrel
           by_cases hbk:b < k
           ·have hbI:(b:Int) < k:=by omega
            have hb8:(b:Int) < 8:=by omega
            have q1:=hF.cell (a:=a) (b:=q) (by omega) (by omega)
            have q2:=hF.cell (a:=q) (b:=b) (by omega) (by omega)
            have q3:=hF.cell (a:=a) (b:=b) (by omega) (by omega)
            have fz:=hF.frozen (a * 8 + b)
            have Hw2:=hide (hfw.out.step hqk hak hbk)
            have Hb2:=hide (hfb.out.step a b)
            have hp8:2 ^ q≤2 ^ 8:=Nat.pow_le_pow_right (by decide) (by omega)
            have hA:=hfb.out.2.1 a
            have hB:=hfb.out.2.2 b
            have HY:=hide (fwStep_yes (f:=f) (k:=q) (a:=a) (b:=b))
            have HN:=hide (fwStep_no (f:=f) (k:=q) (a:=a) (b:=b))
            have Hset:=hide (fun (nq x:Nat)=>FarAt.setK (wr:=wr.drewN nq) (show FarAt (wr.drewN nq) g f from hF) (hK.trans (Keeps.drewN [] wr nq)) hgs (a:=a) (b:=b) (by omega) (by omega) x)
            have HFK:=hide (fun (nq:Nat)=>And.intro hF (hK.trans (Keeps.drewN [] wr nq)))
            obtain ⟨A,eA⟩:∃ A,f a q = A:=⟨_,rfl⟩
            obtain ⟨B,eB⟩:∃ B,f q b = B:=⟨_,rfl⟩
            obtain ⟨C,eC⟩:∃ C,f a b = C:=⟨_,rfl⟩
            rw [eA] at q1 hA HY HN
            rw [eB] at q2 hB HY HN
            rw [eC] at q3 HY HN
            have hA':A≤256:=by omega
            have hB':B≤256:=by omega
            have hAB:IntKind.i64.wrap ((A:Int) + (B:Int)) = ((A + B:Nat):Int):=by rw [IntKind.wrap_i64];omega
            clear eA eB eC hp8 hA hB hF hK hfw hfb
            obtain ⟨n,hn⟩:∃ n,A + B = n:=⟨_,rfl⟩
            rw [hn] at HY HN hAB
            have hn':(A:Int) + (B:Int) = (n:Int):=by omega
            have Hn:=hide hn
            clear hn
            go_upto_region 27 with fail
            go_quiet (fail)
            by_cases c1:0 < A
            ·by_cases c2:0 < B
             ·by_cases c3:C = 0
              ·subst c3
               go_wp2_with fail
               exact ⟨⟨b + 1,updF f a b n,by simp,by omega,hide (HY.out (by omega) (by omega) (by omega) ▸ Hw2.out),hide (HY.out (by omega) (by omega) (by omega) ▸ Hb2.out),(Hset.out _ n).1,(Hset.out _ n).2⟩,by simp only [intOf];omega⟩
              ·by_cases c4:n < C
               ·go_wp2_with fail
                exact ⟨⟨b + 1,updF f a b n,by simp,by omega,hide (HY.out (by omega) (by omega) (by omega) ▸ Hw2.out),hide (HY.out (by omega) (by omega) (by omega) ▸ Hb2.out),(Hset.out _ n).1,(Hset.out _ n).2⟩,by simp only [intOf];omega⟩
               ·go_wp2_with fail
                exact ⟨⟨b + 1,f,by simp,by omega,hide (HN.out (by omega) ▸ Hw2.out),hide (HN.out (by omega) ▸ Hb2.out),(HFK.out 0).1,(HFK.out _).2⟩,by simp only [intOf];omega⟩
             ·obtain rfl:B = 0:=by omega
              go_wp2_with fail
              exact ⟨⟨b + 1,f,by simp,by omega,hide (HN.out (by omega) ▸ Hw2.out),hide (HN.out (by omega) ▸ Hb2.out),(HFK.out 0).1,(HFK.out _).2⟩,by simp only [intOf];omega⟩
            ·obtain rfl:A = 0:=by omega
             go_wp2_with fail
             exact ⟨⟨b + 1,f,by simp,by omega,hide (HN.out (by omega) ▸ Hw2.out),hide (HN.out (by omega) ▸ Hb2.out),(HFK.out 0).1,(HFK.out _).2⟩,by simp only [intOf];omega⟩
           ·obtain rfl:k = b:=by omega
            have hbI:¬ (k:Int) < k:=by omega
            go_wp2_with fail
            exact ⟨⟨a + 1,f,by simp,by omega,hide hfw.out.row,hfb,hF,hK⟩,by simp only [intOf];omega⟩
         ·obtain rfl:k = a:=by omega
          have hbI:¬ (k:Int) < k:=by omega
          go_wp2_with fail
          exact ⟨⟨q + 1,f,by simp,by omega,hide hfw.out.next,hide hfb.out.1,hF,hK⟩,by simp only [intOf];omega⟩
       ·obtain rfl:k = q:=by omega
        have hbI:¬ (k:Int) < k:=by omega
        clear hfb
        obtain ⟨toks,hread⟩:=reach_read hk1 hk8 hek.out hl30
        have hfine:=readS_fine hread
        have hmd:=hide (fun (W:World)=>made21_calls (w:=W) (txB k ed) (by rw [txB_size];omega) hread (by decide:0 < 4))
        have Hread:=hide hread
        clear hread
        go_wp2_with fail
        refine (hmd.out _).mono ?_
        rintro e W5 ⟨⟨eb,bb,B,S,gr,cr,rs,tv,mv,ka,ks,kc,vals,rk,rfl,hM⟩,k5⟩
        have hF5:=hF.keeps k5 (by simp)
        have hK5:=hK.trans k5
        obtain ⟨_,_,v2,v3⟩:=reach_vals hM.lay hM.stable
        have hr:∀ a b,a < k→b < k→(0 < f a b∧rk 2 [a,b] = some (f a b)∧rk 3 [a,b] = none)∨(f a b = 0∧rk 2 [a,b] = none∧rk 3 [a,b] = some 1):=fun a b ha hb=>by
         obtain ⟨h1,h2⟩:=reach_holds hk8 hek.out hM.lay hM.stable (hM.lays hfine) ha hb
         rcases hfw.out.done ha hb with ⟨p1,p2,p3⟩ | ⟨p1,p2⟩
         ·have e1:rk 2 [a,b] = some (f a b):=(h1 _).2 ⟨p2,fun q hq hw=>by have:=p3 q hw;omega⟩
          exact .inl ⟨p1,e1,by rw [h2,e1];rfl⟩
         ·have e1:rk 2 [a,b] = none:=by
           cases hq:rk 2 [a,b] with
           | none=>rfl
           | some r=>exact absurd ((h1 r).1 hq).1 (p2 r)
          exact .inr ⟨p1,e1,by rw [h2,e1];rfl⟩
        have Hr:=hide hr
        have Hv2:=hide v2
        have Hv3:=hide v3
        have hp:placeB ((reachM k (reachC k ed)).rels.map Prod.fst) (ba [112]) = some 2:=by show placeB (reachRel.map Prod.fst) (ba [112]) = some 2;decide
        have hno:placeB ((reachM k (reachC k ed)).rels.map Prod.fst) (ba [110,111]) = some 3:=by show placeB (reachRel.map Prod.fst) (ba [110,111]) = some 3;decide
        rw [Hc7.out] at hp
        rw [Hc8.out] at hno
        have Hp:=hide hp
        have Hno:=hide hno
        have hM5:=hM
        clear hM hF hK k5 hmd hfw v2 v3 hr hp hno Hc0 Hc1 Hc2 Hc3 Hc4 Hc5 Hc6 Hc7 Hc8
        generalize wr.heap.size = zz at *
        rename World=>wo6
        go_wp2_with fail
        go_loopw [18] (fun y wr=>∃ (a:Nat),y = .int .i64 a∧a≤k∧FarAt wr g f∧Hid (Made wr zz eb (reachM k (reachC k ed)) bb B S gr cr rs tv mv ka ks kc vals rk)∧Keeps [] w wr) (fun y _=>((k:Int) - intOf y).toNat)
        case atStart=>exact ⟨0,rfl,by omega,hF5,hide hM5,hK5⟩
        case round=>
         clear hF5 hK5 hM5
         obtain ⟨a,rfl,ha,hF,hM,hK⟩:=hrel
         by_cases hak:a < k
         ·have haI:(a:Int) < k:=by omega
          have ha8:(a:Int) < 8:=by omega
          rename World=>wo5
          go_wp2_with fail
          go_loopw [19] (fun y wr=>∃ (b:Nat),y = .int .i64 b∧b≤k∧FarAt wr g f∧Hid (Made wr zz eb (reachM k (reachC k ed)) bb B S gr cr rs tv mv ka ks kc vals rk)∧Keeps [] w wr) (fun y _=>((k:Int) - intOf y).toNat)
          case atStart=>exact ⟨0,rfl,by omega,hF,hM,hK⟩
          case round=>
           clear hF hK hM
           obtain ⟨b,rfl,hb,hF,hM,hK⟩:=hrel
           by_cases hbk:b < k
           ·have hbI:(b:Int) < k:=by omega
            have hb8:(b:Int) < 8:=by omega
            have kA:=Keeps.alloc [] wr (.cells #[.int .i64 (a:Int),.int .i64 (b:Int)] 3)
            have hrA:=row2 wr a b
            have hMA:=hM.out.keeps0 kA
            have hra:=hide (rank29_calls (cap:=2) hMA.eng hfine.ok hMA.cell Hp.out hrA (reach_tup (.inl rfl) hak hbk))
            have hrk:=Hr.out a b hak hbk
            have HM:=hide hMA
            have HK:=hide (hK.trans kA)
            have HF:=hide (hF.keeps kA (by simp))
            simp only [List.length_cons,List.length_nil] at hra
            obtain ⟨A,eA⟩:∃ A,f a b = A:=⟨_,rfl⟩
            rw [eA] at hrk
            clear kA hrA hMA hF hK hM
            rcases hrk with ⟨h1,h2,h3⟩ | ⟨h1,h2,h3⟩
            ·rw [h2] at hra
             have hA0:¬ A = 0:=by omega
             clear h2
             go_wp2_with fail
             refine hra.out.mono ?_
             rintro e W6 ⟨rfl,k6⟩
             have kB:=Keeps.alloc [] W6 (.cells #[.int .i64 (a:Int),.int .i64 (b:Int)] 3)
             have hrB:=row2 W6 a b
             have hMB:=(HM.out.keeps0 k6).keeps0 kB
             have hrb:=hide (rank29_calls (cap:=2) hMB.eng hfine.ok hMB.cell Hno.out hrB (reach_tup (.inr rfl) hak hbk))
             rw [h3] at hrb
             simp only [List.length_cons,List.length_nil] at hrb
             have HM2:=hide hMB
             have HK2:=hide ((HK.out.trans k6).trans kB)
             have HF2:=hide ((HF.out.keeps k6 (by simp)).keeps kB (by simp))
             clear kB hrB hMB h3 k6 HM HK HF
             go_wp2_with fail
             refine hrb.out.mono ?_
             rintro e W7 ⟨rfl,k7⟩
             have hF7:=HF2.out.keeps k7 (by simp)
             have q1:=hF7.cell (a:=a) (b:=b) (by omega) (by omega)
             rw [eA] at q1
             have HM7:=hide (HM2.out.keeps0 k7)
             have HK7:=hide (HK2.out.trans k7)
             have HF7:=hide hF7
             clear eA hF7 k7 HM2 HK2 HF2
             go_wp2_with fail
             exact ⟨⟨b + 1,by simp,by omega,HF7.out,HM7,HK7.out⟩,by simp only [intOf];omega⟩
            ·subst h1
             rw [h2] at hra
             clear h2
             go_wp2_with fail
             refine hra.out.mono ?_
             rintro e W6 ⟨rfl,k6⟩
             have kB:=Keeps.alloc [] W6 (.cells #[.int .i64 (a:Int),.int .i64 (b:Int)] 3)
             have hrB:=row2 W6 a b
             have hMB:=(HM.out.keeps0 k6).keeps0 kB
             have hrb:=hide (rank29_calls (cap:=2) hMB.eng hfine.ok hMB.cell Hno.out hrB (reach_tup (.inr rfl) hak hbk))
             rw [h3] at hrb
             simp only [List.length_cons,List.length_nil] at hrb
             have HM2:=hide hMB
             have HK2:=hide ((HK.out.trans k6).trans kB)
             have HF2:=hide ((HF.out.keeps k6 (by simp)).keeps kB (by simp))
             clear kB hrB hMB h3 k6 HM HK HF
             go_wp2_with fail
             refine hrb.out.mono ?_
             rintro e W7 ⟨rfl,k7⟩
             have hF7:=HF2.out.keeps k7 (by simp)
             have q1:=hF7.cell (a:=a) (b:=b) (by omega) (by omega)
             rw [eA] at q1
             have HM7:=hide (HM2.out.keeps0 k7)
             have HK7:=hide (HK2.out.trans k7)
             have HF7:=hide hF7
             clear eA hF7 k7 HM2 HK2 HF2
             go_wp2_with fail
             exact ⟨⟨b + 1,by simp,by omega,HF7.out,HM7,HK7.out⟩,by simp only [intOf];omega⟩
           ·obtain rfl:k = b:=by omega
            have hbI:¬ (k:Int) < k:=by omega
            go_wp2_with fail
            exact ⟨⟨a + 1,by simp,by omega,hF,hM,hK⟩,by simp only [intOf];omega⟩
         ·obtain rfl:k = a:=by omega
          have hbI:¬ (k:Int) < k:=by omega
          have hl1:=hide (layer32_calls hM.out.eng hM.out.cell Hp.out)
          have hl2:=hide (layer32_calls hM.out.eng hM.out.cell Hno.out)
          rw [Hv2.out] at hl1
          rw [Hv3.out] at hl2
          go_wp2_with fail
          refine hl1.out.mono ?_
          rintro e W8 ⟨rfl,rfl⟩
          go_wp2_with fail
          refine hl2.out.mono ?_
          rintro e W9 ⟨rfl,rfl⟩
          go_wp2_with fail
          go_ret
          exact ⟨rfl,hK⟩
end
end Go.Proofs.YtgjomknpjigkhaaGreatDoor
