import Derived.Test.YtjoblhlkfmeckaaGreatDoorQ15
import Derived.Shelf.SlSortCmp.NoneTotal
import Derived.Shelf.Small.Strs
set_option maxHeartbeats 1000000
set_option maxRecDepth 8000
set_option linter.unusedVariables false
set_option linter.unusedSimpArgs false
open Option renaming some → lp,none → od
open Go.Lib renaming compareBytes → z8
open Go.RowKit.Below renaming heap_alloc → q8
open Go renaming heap_alloc_new → tw,World → qq,Calls → xi
open Bool renaming false → vp,true → s7
open Go.Instr renaming lookup → ry
open Go.RowKit renaming Below → ug
open Go.Value renaming int → rl,string → pt,bool → gf,tuple → fh,agg → lx
open Go.Obj renaming cells → ye
open Go.IntKind renaming i64 → tz
open Go.Ending renaming returned → pd
open Go.Proofs.Tryz
theorem U4r{p q:Prop}(k:q)(h:Hd q->p:=by
 intro kz
 have HK4:Hid (Ar W1 W4 (· = b)):=by rw [←hW4];exact HK3.out.alloc _
 have HQ4:Hid (Q W4):=by rw [←hW4];exact HQ.out _ _ HQ3.out (Below.heap_alloc _ _ _ (aB hbw (aE (dN hs1) HK3.out.size)))
 obtain⟨m0,m1,m2⟩:=Ld (w:=W4) 0 1 2 HM4.out
 revert HK4 HQ4 m0 m1 m2
 exact kz.1):p:=h ⟨k⟩
theorem Eca{p q:Prop}(k:q)(h:Hd q->p:=by
 intro kz
 have HE:Hid ((W4.alloc (.cells #[] 106)).ownsRow w.heap.size 256 2 u7 1 [.int .i64 Il,.string q]/\Ar W1 (W4.alloc (.cells #[] 106)) (· = b)/\Q (W4.alloc (.cells #[] 106))):=by
  refine⟨?_,HK4.out.alloc _,HQ.out _ _ HQ4.out (Below.heap_alloc _ _ _ (aB hbw (aE (dN hs1) HK4.out.size)))⟩
  rw [←hW4,←hW3]
  exact((hb.out.1.alloc _).alloc _).alloc _
 revert HE
 exact kz.1):p:=h ⟨k⟩
theorem Zqj{p:Prop}(h:p:=by
 go_roundw
 case rel=>exact⟨j+1,Ab,by go_num,.inr ⟨Ab,HE⟩⟩
 case measure=>first|(simp [intOf];done)|(simp [intOf];omega)):p:=h
namespace Go.Proofs.YtjoblhlkfmeckaaGreatDoor
open Go.RowKit Go.Maps
theorem Tryz.info256:(prog.info? 256).map (fun i=>(i.zero,i.size,i.bytes))=lp (lp (lx #[rl tz 0,pt ⟨#[]⟩]),2,24):=Aa
theorem Ar.cell{w w':qq}{X:Nat->Prop}(h:Ar w w' X){p:Addr}(hp:p.block<w.heap.size)(hx:¬X p.block):w'.cell? p=w.cell? p:=World.cell?_of_block (h.block _ hp hx)
theorem Ar.alloc{w w':qq}{X:Nat->Prop}(h:Ar w w' X)(o:Obj):Ar w (w'.alloc o) X:=h.trans (Ar.of_below (Bh _ _) (aA _))
theorem QI(w:qq)(b:Nat)(s:Int)(kind:Nat)(hk:kind<4)(q d n:ByteArray)(v:Int)(g o:Nat)(T0:List Tl)(of0 Il:Int)(T:List Tl)(hTT:Hid (T=(of0,vp,Il) :: T0))(hT:T.length<=3)(h4b:b≠4)(hgb:b≠g)(hbw:b<w.heap.size)(Q:qq->Prop)(hrow:w.cell? ⟨4,kind,od⟩=lp (.slice (lp ⟨g,o,od⟩) T.length T.length))(h4:4<w.heap.size)(hg:g<w.heap.size)(Ee:Hid (∀j (x:Tl),T[j]? = lp x->w.cell? ⟨g,o+j * 3,od⟩=lp (rl tz x.1)/\w.cell? ⟨g,o+j * 3+1,od⟩=lp (gf x.2.1)/\w.cell? ⟨g,o+j * 3+2,od⟩=lp (rl tz x.2.2)))(HP:Hid (∀W,xi prog 169 #[pt q] W fun e w'=>e=pd (pt (Ds q))/\w'=W))(HL0:Hid (∀W,ug w.heap.size w W->(ry 81 (.map (lp b)) (Dw s q of0) s7).run prog W=.ok (fh #[lx #[],gf s7]) W))(HD:Hid (∀W,ug w.heap.size w W->∃W',(Builtin.delete_ #[81,170] 0 #[.map (lp b),Dw s q of0]).run prog W=.ok (fh #[]) W'/\W.grownBy W' (lp b)/\Q W'))(HQ:Hid (∀W W',Q W->W'.heap[b]? = W.heap[b]?->Q W'))(HL:Hid (∀W,Q W->∀x∈T0,(ry 81 (.map (lp b)) (Dw s (if x.2.1 then Ds q else q) x.1) s7).run prog W=.ok (fh #[lx #[],gf vp]) W)) :
  xi prog 177 #[.map (lp b),rl tz s,J4 kind q d n v] w fun e w'=>(∃ov,e=pd ov/\w'.ownsRow w.heap.size 256 2 ov 1 [rl tz Il,pt q])/\Ar w w' (· = b)/\Q w':=by
 refine N3o ?_;intro Ia W1 hW1 HA Cs a0 r1 hs1
 go_enter func177,ntmps177
 go_wp2
 obtain⟨i0,hi0,hz0,hz1,hz2⟩:=info_parts Tryz.info256
 go_loopw [7,19] (fun ev i wr=>∃j:Nat,j<=T.length/\i=rl tz j/\((j=0/\ev=.slice od 0 0/\Hid (ug W1.heap.size W1 wr))∨(1<=j/\Hid (wr.ownsRow w.heap.size 256 2 ev 1 [rl tz Il,pt q]/\Ar W1 wr (· = b)/\Q wr)))) (fun _ i _=>T.length - (intOf i).toNat)
 case atStart=>exact⟨0,cC _,rfl,.inl ⟨rfl,rfl,Below.refl _ _⟩⟩
 case round=>
  obtain⟨j,hj,rfl,hor⟩:=hrel
  rcases hor with⟨rfl,rfl,hb⟩|⟨hj1,hb⟩
  ·have HBW:Hid (ug w.heap.size w wr):=Cs.out.trans (hb.out.mono Cs.out.size)
   have hc:=Ee.out 0 (of0,vp,Il) (by rw [hTT.out];rfl)
   have e0:wr.cell? ⟨g,o,od⟩=lp (rl tz of0):=(HBW.out.cell (p:=⟨g,o,od⟩) hg).trans (by simpa using hc.1)
   have e1:wr.cell? ⟨g,o+1,od⟩=lp (gf vp):=(HBW.out.cell (p:=⟨g,o+1,od⟩) hg).trans (by simpa using hc.2.1)
   have e2:wr.cell? ⟨g,o+2,od⟩=lp (rl tz Il):=(HBW.out.cell (p:=⟨g,o+2,od⟩) hg).trans (by simpa using hc.2.2)
   have hT1:0<T.length:=by rw [hTT.out];simp
   have hT1i:(0:Int)<(T.length:Int):=Ab
   have HAr:Hid (wr.heap[w.heap.size]? = lp (ye #[rl tz kind,pt q,pt d,pt n,rl tz v] 130)):=(hb.out.block _ hs1).trans HA.out
   obtain⟨W3,hW3⟩:∃W3,wr.alloc (ye #[rl tz of0,gf vp,rl tz Il] 276)=W3:=⟨_,rfl⟩
   have HN3:Hid (W3.heap[wr.heap.size]? = lp (ye #[rl tz of0,gf vp,rl tz Il] 276)):=by rw [←hW3];exact tw _ _
   have HB3:Hid (ug W1.heap.size W1 W3):=by rw [←hW3];exact hb.out.alloc hb.out.size _
   refine Lek ?_;intro HA3
   obtain⟨n0,n1⟩:=BH (w:=W3) 0 1 HN3.out
   have a31:=Kl (w:=W3) 1 HA3.out
   obtain⟨W4,hW4⟩:∃W4,W3.alloc (ye #[rl tz s,pt q,rl tz of0] 170)=W4:=⟨_,rfl⟩
   have HM4:Hid (W4.heap[W3.heap.size]? = lp (ye #[rl tz s,pt q,rl tz of0] 170)):=by rw [←hW4];exact tw _ _
   have HN4:Hid (W4.heap[wr.heap.size]? = lp (ye #[rl tz of0,gf vp,rl tz Il] 276)):=by rw [←hW4];exact(q8 _ _ _ (ltOf HN3.out)).trans HN3.out
   refine O4d ?_;intro HB4 m0 m1 m2
   have l4:(ry 81 (.map (lp b)) (Dw s q of0) s7).run prog W4=.ok (fh #[lx #[],gf s7]) W4:=HL0.out W4 (Cs.out.trans (HB4.out.mono Cs.out.size))
   obtain⟨W5,hW5⟩:∃W5,W4.alloc (ye #[] 106)=W5:=⟨_,rfl⟩
   have HM5:Hid (W5.heap[W3.heap.size]? = lp (ye #[rl tz s,pt q,rl tz of0] 170)):=by rw [←hW5];exact(q8 _ _ _ (ltOf HM4.out)).trans HM4.out
   have HN5:Hid (W5.heap[wr.heap.size]? = lp (ye #[rl tz of0,gf vp,rl tz Il] 276)):=by rw [←hW5];exact(q8 _ _ _ (ltOf HN4.out)).trans HN4.out
   have HB5:Hid (ug W1.heap.size W1 W5):=by rw [←hW5];exact HB4.out.alloc HB4.out.size _
   obtain⟨o0,o1,o2⟩:=Ld (w:=W5) 0 1 2 HM5.out
   obtain⟨W6,u6,g6,q6⟩:=HD.out W5 (Cs.out.trans (HB5.out.mono Cs.out.size))
   have hbr:b<wr.heap.size:=aB hbw HBW.out.size
   have HN6:Hid (W6.heap[wr.heap.size]? = lp (ye #[rl tz of0,gf vp,rl tz Il] 276)):=(g6.block _ (ltOf HN5.out) (fun e=>by injection e;omega)).trans HN5.out
   have p2:=Kl (w:=W6) 2 HN6.out
   have HK6:Hid (Ar W1 W6 (· = b)):=(Ar.of_below HB5.out (aA _)).trans (Ar.of_grown g6 (.inl rfl))
   have HQ6:Hid (Q W6):=q6
   have hs6:w.heap.size<=W6.heap.size:=aE (dN hs1) HK6.out.size
   have hb6:b<W6.heap.size:=aB hbw hs6
   clear g6 q6 hc
   go_wp2_with (at_builtin;refine wpList_append_own_at _ rfl _ _ 253 rfl w.heap.size 256 i0 _ 2 24 Tryz.underlying253 hi0 hz0 hz1 hz2 rfl Ad (.slice od 0 0) 0 [] rfl (World.ownsRow_nil _ _ _ _) ⟨W6.heap.size,0,od⟩ 1 1 [rl tz Il,pt q] rfl rfl (World.news_of_block (tw W6 _)) ?c2 ?c3 ?c4 ?c5 ?_)
   case c2=>intro u hu;simp at hu;rcases hu with rfl|rfl <;> rfl
   case c3=>unfold maxLen;omega
   case c4=>omega
   case c5=>simp;omega
   intro v' w1 hown' hgrow _ hat
   have HE:Hid (w1.ownsRow w.heap.size 256 2 v' 1 [rl tz Il,pt q]/\Ar W1 w1 (· = b)/\Q w1):=by
    have hk:Ar W6 w1 (· = b):=by
     have hz:Ar (W6.alloc (ye #[rl tz Il,pt q] 256)) w1 (· = b):=⟨hgrow.os,hgrow.tape,hgrow.output,hgrow.size,fun k hk _=>hgrow.block k hk (by simp [Value.ownBlock])⟩
     exact(Ar.of_below (Bh _ _) (aA _)).trans hz
    refine⟨by simpa using hown',HK6.out.trans hk,HQ.out _ _ HQ6.out ?_⟩
    rw [hgrow.block b Ag (by simp [Value.ownBlock])]
    exact q8 _ _ _ hb6
   clear hown' hgrow hat
   go_wp2
   go_roundw
   case rel=>exact⟨1,Ab,by go_num,.inr ⟨aA _,HE⟩⟩
   case measure=>first|(simp [intOf];done)|(simp [intOf];omega)
  ·by_cases Cg:j=T.length
   ·subst Cg
    go_wp2
    go_ret
    exact⟨⟨_,rfl,hb.out.1⟩,(Ar.of_below Cs.out (aA _)).trans hb.out.2.1,hb.out.2.2⟩
   ·obtain⟨x,hx⟩:∃x,T[j]? = lp x:=⟨T[j]' Ab,aR _⟩
    have hc:=Ee.out j x hx
    have HXM:Hid (x∈T0):=by
     rw [hTT.out,List.getElem?_cons,aO Ab] at hx
     exact cD hx
    obtain⟨of,par,what⟩:=x
    have hkw:=(Ar.of_below (X:=(· = b)) Cs.out (aA _)).trans hb.out.2.1
    have e0:wr.cell? ⟨g,o+j * 3,od⟩=lp (rl tz of):=(hkw.cell (p:=⟨g,o+j * 3,od⟩) hg (fun e=>hgb e.symm)).trans hc.1
    have e1:wr.cell? ⟨g,o+j * 3+1,od⟩=lp (gf par):=(hkw.cell (p:=⟨g,o+j * 3+1,od⟩) hg (fun e=>hgb e.symm)).trans hc.2.1
    have e2:wr.cell? ⟨g,o+j * 3+2,od⟩=lp (rl tz what):=(hkw.cell (p:=⟨g,o+j * 3+2,od⟩) hg (fun e=>hgb e.symm)).trans hc.2.2
    have hj1:(j:Int)<(T.length:Int):=Ab
    have HAr:Hid (wr.heap[w.heap.size]? = lp (ye #[rl tz kind,pt q,pt d,pt n,rl tz v] 130)):=(hb.out.2.1.block _ hs1 (fun e=>Ab)).trans HA.out
    refine Mse ?_;intro W3 hW3 HN3
    have HK3:Hid (Ar W1 W3 (· = b)):=by rw [←hW3];exact hb.out.2.1.alloc _
    have HQ3:Hid (Q W3):=by rw [←hW3];exact HQ.out _ _ hb.out.2.2 (q8 _ _ _ (aB hbw hkw.size))
    refine Lek ?_;intro HA3
    obtain⟨n0,n1,n2⟩:=Ld (w:=W3) 0 1 2 HN3.out
    have a31:=Kl (w:=W3) 1 HA3.out
    clear hc Ee hx hkw
    cases par with
    | false=>
     refine E48 ?_;intro W4 hW4 HM4
     refine U4r ?_;intro HK4 HQ4 m0 m1 m2
     have l4:(ry 81 (.map (lp b)) (Dw s q of) s7).run prog W4=.ok (fh #[lx #[],gf vp]) W4:=HL.out W4 HQ4.out _ HXM.out
     refine Eca ?_;intro HE
     clear hb
     go_wp2
     exact Zqj
    | true=>
     refine Nme ?_;intro W4 hW4 HM4
     refine U4r ?_;intro HK4 HQ4 m0 m1 m2
     have l4:(ry 81 (.map (lp b)) (Dw s (Ds q) of) s7).run prog W4=.ok (fh #[lx #[],gf vp]) W4:=HL.out W4 HQ4.out _ HXM.out
     refine Eca ?_;intro HE
     clear hb
     go_wp2_with (go_at_call 169;refine(HP.out _).mono ?_;rintro e w5 ⟨rfl,rfl⟩)
     exact Zqj
def Tryz.ren6:Go.Shelf.Ren:=⟨fun|6=>38|14=>57|15=>58|20=>106|21=>107|22=>108|23=>109|24=>110|25=>111|26=>112|27=>113|28=>114|29=>115|46=>158|47=>159|48=>160|49=>161|50=>162|57=>185|n=>n,fun|0=>0|3=>3|4=>4|5=>5|9=>9|22=>43|24=>96|25=>99|39=>63|45=>174|46=>175|50=>155|53=>113|55=>110|66=>231|70=>234|76=>261|77=>262|n=>n,fun n=>n⟩
set_option maxRecDepth 100000 in
theorem Tryz.lays6:Go.Proofs.SlLaysF0.n6 prog Tryz.ren6:=
 {mixed:=Aa,
  f6:=⟨f38.name,Aa,func38.trans (aG lp Aa)⟩,
  f14:=⟨Tryz.f57.name,Aa,func57.trans (aG lp Aa)⟩,
  f15:=func58.trans (aG lp Aa),
  f20:=⟨Tryz.f106.name,Aa,func106.trans (aG lp Aa)⟩,
  f21:=⟨f107.name,Aa,func107.trans (aG lp Aa)⟩,
  f22:=⟨f108.name,Aa,func108.trans (aG lp Aa)⟩,
  f23:=⟨f109.name,Aa,func109.trans (aG lp Aa)⟩,
  f24:=⟨f110.name,Aa,func110.trans (aG lp Aa)⟩,
  f25:=⟨f111.name,Aa,func111.trans (aG lp Aa)⟩,
  f26:=⟨f112.name,Aa,func112.trans (aG lp Aa)⟩,
  f27:=⟨f113.name,Aa,func113.trans (aG lp Aa)⟩,
  f28:=func114.trans (aG lp Aa),
  f29:=func115.trans (aG lp Aa),
  f46:=⟨f158.name,Aa,func158.trans (aG lp Aa)⟩,
  f47:=func159.trans (aG lp Aa),
  f48:=func160.trans (aG lp Aa),
  f49:=⟨f161.name,Aa,func161.trans (aG lp Aa)⟩,
  f50:=⟨f162.name,Aa,func162.trans (aG lp Aa)⟩,
  f57:=⟨f185.name,Aa,func185.trans (aG lp Aa)⟩,
  t0:=underlying0,
  a0:=isAgg0,
  z0:=sizeOf0,
  v0:=zeroValue0,
  t3:=underlying3,
  a3:=isAgg3,
  z3:=sizeOf3,
  v3:=zeroValue3,
  t4:=underlying4,
  a4:=isAgg4,
  z4:=sizeOf4,
  v4:=zeroValue4,
  t5:=underlying5,
  a5:=isAgg5,
  z5:=sizeOf5,
  v5:=zeroValue5,
  t9:=underlying9,
  a9:=isAgg9,
  z9:=sizeOf9,
  v9:=zeroValue9,
  t22:=underlying43,
  a22:=isAgg43,
  z22:=sizeOf43,
  v22:=zeroValue43,
  t25:=underlying99,
  a25:=isAgg99,
  z25:=sizeOf99,
  v25:=zeroValue99,
  t39:=underlying63,
  a39:=isAgg63,
  z39:=sizeOf63,
  v39:=zeroValue63,
  t45:=underlying174,
  a45:=isAgg174,
  z45:=sizeOf174,
  v45:=zeroValue174,
  t46:=underlying175,
  a46:=isAgg175,
  z46:=sizeOf175,
  v46:=zeroValue175,
  t50:=underlying155,
  a50:=isAgg155,
  z50:=sizeOf155,
  v50:=zeroValue155,
  t53:=underlying113,
  a53:=isAgg113,
  z53:=sizeOf113,
  v53:=zeroValue113,
  t55:=underlying110,
  a55:=isAgg110,
  z55:=sizeOf110,
  v55:=zeroValue110,
  t66:=underlying231,
  a66:=isAgg231,
  z66:=sizeOf231,
  v66:=zeroValue231,
  t70:=underlying234,
  a70:=isAgg234,
  z70:=sizeOf234,
  v70:=zeroValue234,
  t76:=underlying261,
  a76:=isAgg261,
  z76:=sizeOf261,
  v76:=zeroValue261,
  t77:=underlying262,
  a77:=isAgg262,
  z77:=sizeOf262,
  v77:=zeroValue262 }
def Tryz.ren106:Go.Shelf.Ren:=⟨fun|106=>40|213=>59|265=>116|n=>n,fun n=>n,fun n=>n⟩
theorem Tryz.lays106:Go.Proofs.Lays.n106 prog Tryz.ren106:=
 {mixed:=Aa,f106:=func40.trans (aG lp Aa),f213:=func59.trans (aG lp Aa),f265:=func116.trans (aG lp Aa),
  t3:=underlying3,
  a3:=isAgg3,
  z3:=sizeOf3,
  v3:=zeroValue3,
  t9:=underlying9,
  a9:=isAgg9,
  z9:=sizeOf9,
  v9:=zeroValue9 }
instance:Inhabited Nd:=⟨Nd.zero⟩
def GX(x y:Nd):Int:=z8 x.path.data.toList y.path.data.toList
theorem Sn:∀a b:List UInt8,(z8 a b<0)=(a<b)
 | [],[]=>by simp [z8]
 | [],_ :: _=>by simp [z8]
 | _ :: _,[]=>by simp [z8]
 | x :: a,y :: b=>by
  rw [z8,List.cons_lt_cons_iff]
  by_cases h1:x<y
  ·simp [h1]
  ·by_cases h2:y<x
   ·have:x≠y:=fun e=>by subst e;exact h1 h2
    simp [h1,h2,this]
   ·have:x=y:=UInt8.le_antisymm (UInt8.not_lt.1 h2) (UInt8.not_lt.1 h1)
    subst this
    simp [h1,Sn a b]
theorem QD:Go.Sort.SWO (_root_.Go.Proofs.ltOf GX):=by
 refine⟨fun x=>?_,fun x y z h1 h2=>?_,fun x y z h1 h2=>?_⟩
 ·simp only [_root_.Go.Proofs.ltOf,GX,Sn,decide_eq_false_iff_not]
  exact List.lt_irrefl _
 ·simp only [_root_.Go.Proofs.ltOf,GX,Sn,decide_eq_true_eq] at *
  exact List.lt_trans h1 h2
 ·simp only [_root_.Go.Proofs.ltOf,GX,Sn,decide_eq_false_iff_not,List.not_lt] at *
  exact List.le_trans h2 h1
theorem Xq(w:qq)(x y:Nd):xi prog 39 #[x.val,y.val] w fun e w'=>e=pd (rl tz (GX x y))/\w'=(w.alloc (ye x.cs 96)).alloc (ye y.cs 96):=by
 obtain⟨xp,xd,xn,xm,xc,xv⟩:=x
 obtain⟨yp,yd,yn,ym,yc,yv⟩:=y
 obtain⟨W1,hW1⟩:∃W1,w.alloc (ye #[pt xp,pt xd,pt xn,rl tz xm,rl tz xc,rl tz xv] 96)=W1:=⟨_,rfl⟩
 obtain⟨W2,hW2⟩:∃W2,W1.alloc (ye #[pt yp,pt yd,pt yn,rl tz ym,rl tz yc,rl tz yv] 96)=W2:=⟨_,rfl⟩
 have a1:W2.cell? ⟨w.heap.size,0,od⟩=lp (pt xp):=by
  have h1:W1.heap[w.heap.size]? = lp (ye #[pt xp,pt xd,pt xn,rl tz xm,rl tz xc,rl tz xv] 96):=by rw [←hW1];exact tw _ _
  have h2:W2.heap[w.heap.size]? = lp (ye #[pt xp,pt xd,pt xn,rl tz xm,rl tz xc,rl tz xv] 96):=by rw [←hW2];exact(q8 _ _ _ (ltOf h1)).trans h1
  exact cellOf h2 rfl
 have a2:W2.cell? ⟨W1.heap.size,0,od⟩=lp (pt yp):=by
  have h2:W2.heap[W1.heap.size]? = lp (ye #[pt yp,pt yd,pt yn,rl tz ym,rl tz yc,rl tz yv] 96):=by rw [←hW2];exact tw _ _
  exact cellOf h2 rfl
 have HC:Hid (xi prog 40 #[pt xp,pt yp] W2 fun e w'=>e=pd (rl tz (z8 xp.data.toList yp.data.toList))/\w'=W2):=Any.strings_Compare Tryz.lays106 xp yp W2
 show xi prog 39 #[lx #[pt xp,pt xd,pt xn,rl tz xm,rl tz xc,rl tz xv],lx #[pt yp,pt yd,pt yn,rl tz ym,rl tz yc,rl tz yv]] w _
 go_enter func39,ntmps39
 go_wp2_with (go_at_call 40;refine HC.out.mono ?_;rintro e w1 ⟨rfl,rfl⟩)
 go_ret
 exact⟨rfl,by rw [hW1,hW2]⟩
theorem Um:∀(L:List Nd) (j:Nat),j<L.length * 6->(Hr L)[j]? = lp ((L.toArray[j / 6]!).cs.toList[j % 6]!)
 | [],j,h=>by simp at h
 | x :: L,j,h=>by
  have e:Hr (x :: L)=x.cs.toList++Hr L:=rfl
  rw [e]
  by_cases hj:j<6
  ·rw [eE (by simpa using hj),Nat.div_eq_of_lt hj,Nat.mod_eq_of_lt hj]
   rw [aR (by simpa using hj),getElem!_pos _ _ (by simpa using hj)]
   rfl
  ·obtain⟨k,rfl⟩:∃k,j=k+6:=⟨j - 6,Ab⟩
   rw [eB Ae,show k+6 - x.cs.toList.length=k from Ae,Um L k (by simp at h;omega),Nat.add_div_right _ Ad,Nat.add_mod_right]
   congr 2
   have:k / 6<L.length:=by simp at h;omega
   simp [this]
theorem JY(w:qq)(base:Nat)(v:Value)(L:List Nd)(hl:L.length<=1000)(ho:w.ownsRow base 96 6 v L.length (Hr L))(w0:qq)(hb:ug base w0 w) :
  xi prog 38 #[v,.func (.func 39) #[] #[]] w fun e w'=>e=pd (fh #[])/\ug base w0 w':=by
 rcases ho.2 with⟨rfl,h0⟩|⟨g,cap,cur,rfl,hbg,hg,hnc,hcm,hcs,ht⟩
 ·refine(AnyF.slices_SortFunc_none Tryz.lays6 od 0 _ w).mono ?_
  rintro e w' ⟨rfl,rfl⟩
  exact⟨rfl,hb⟩
 ·have hn6:(Hr L).length=L.length * 6:=by rw [←ht];simp;omega
  have hH:Go.Sort.HoldsK (fun x:Nd=>x.cs.toList) 6 w g 0 L.toArray:=fun j hj=>by
   have hj6:j<L.length * 6:=by simpa using hj
   rw [aM]
   refine⟨?_,Ay hg⟩
   have h1:(cur.toList.take (L.length * 6))[j]? = (Hr L)[j]?:=by rw [ht]
   rw [dI,aQ hj6,Um L j hj6] at h1
   rw [Go.Sort.get_flatK _ _ _ _ (by simpa using hj6)]
   exact cellOf hg (by simpa using h1)
  have:=AnyQ.slices_SortFunc Tryz.lays6 6 isAgg96 sizeOf96 (fun x:Nd=>x.cs.toList) (fun x=>rfl) (fun x v hv=>by simp at hv;rcases hv with rfl|rfl|rfl|rfl|rfl|rfl <;> rfl) GX QD 39 #[] g 0 cap L.toArray w (enters_of func39 Aa rfl) (fun m os dk hs x y=>(Xq _ x y).mono fun e w' ⟨h1,h2⟩=>⟨h1,0,#[ye x.cs 96,ye y.cs 96],by rw [h2];rfl⟩) hH (ltOf hg) Ag
  refine this.mono ?_
  rintro e w' ⟨rfl,d',n,os,_,_,rfl⟩
  refine⟨rfl,hb.os,hb.tape,hb.output,?_,fun k hk=>?_⟩
  ·have:=hb.size
   simp [sortWorldK,Go.Sort.putRowK,Go.Sort.grow,Go.Sort.putRow,Go.Sort.mapBlock,Go.Sort.ahead]
   omega
  ·exact Wvp
theorem IW(w:qq)(tb mb:Nat)(num:Int)(ns:List (ByteArray×Nd))(h:Ca w tb mb num ns)(h32:ns.length<=1000) :
  xi prog 32 #[.pointer (lp ⟨tb,0,od⟩)] w fun e w'=>(∃v,e=pd v)/\ug w.heap.size w w':=
 IX w tb mb num ns h h32 fun W v L hb hl ho=>JY W w.heap.size v L hl ho w hb
theorem GJ(w:qq):(zeroValue 106).run prog w=.ok (lx #[]) w:=Aa
section
variable {w:qq} {b:Nat} {ks:List Value}
theorem Lo.keep{w':qq}(h:Lo w b ks)(hb:w'.heap[b]? = w.heap[b]?):Lo w' b ks:=Bm.of_block h hb
theorem Acx(h:Lo w b ks){s o:Int}{p:ByteArray}(hs:(Lit.int tz s).wf=s7)(ho:(Lit.int tz o).wf=s7)(hp:p.size<=1000)(hk:ks = []∨ks = [Dw s p o]) :
  xi prog 149 #[.map (lp b),Dw s p o] w fun e w'=>e=pd (fh #[])/\Lo w' b [Dw s p o]/\Ar w w' (· = b):=by
 obtain⟨l,hl⟩:=Xk hs ho hp
 refine LQ w b s o p (fun w'=>Lo w' b [Dw s p o]/\Ar w w' (· = b)) (fun W hW=>?_)
 have hm:Lo W b ks:=h.keep (hW.block b (Bm.lt h))
 have hkw:∀{W'},W.grownBy W' (lp b)->Ar w W' (· = b):=fun hg=>(Ar.of_below hW (aA _)).trans (Ar.of_grown hg (.inl rfl))
 rcases hk with rfl|rfl
 ·obtain⟨W',hr,hm',hg⟩:=Bm.put_new hm Q6 underlying81 hl (val:=.agg #[]) (fun q hq=>by cases hq)
  exact⟨W',hr,hm',hkw hg⟩
 ·obtain⟨W',hr,hm',hg⟩:=Bm.put_old hm Q6 underlying81 hl (val:=.agg #[]) (A:=[]) (C:=[]) (v:=lx #[]) rfl
  exact⟨W',hr,hm',hkw hg⟩
structure Hn(w:qq)(kind:Nat)(g:Nat)(T:List Tl):Prop where
 ex:∃o,w.cell? ⟨4,kind,od⟩=lp (.slice (lp ⟨g,o,od⟩) T.length T.length)/\∀j (x:Tl),T[j]? = lp x->w.cell? ⟨g,o+j * 3,od⟩=lp (rl tz x.1)/\w.cell? ⟨g,o+j * 3+1,od⟩=lp (gf x.2.1)/\w.cell? ⟨g,o+j * 3+2,od⟩=lp (rl tz x.2.2)
theorem Ru{q:ByteArray}(hq:q.size<=1000):(Ds q).size<=1000:=by
 unfold Ds
 split
 ·decide
 ·rw [cQ];omega
variable {kind:Nat} {g:Nat} {T:List Tl} (h:Lo w b ks) (hk:kind<4) (hT:Hn w kind g T) (h3:T.length<=3) (h4:4<w.heap.size) (hg:g<w.heap.size) {s:Int} (hs:(Lit.int tz s).wf=s7) (hof:∀x∈T,(Lit.int tz x.1).wf=s7) {q:ByteArray} (hq:q.size<=1000) (hsl:Dj q=s7) (d n:ByteArray) (v:Int)
include h hk hT h3 h4 hg hs hof hq hsl
theorem U6(hno:∀x∈T,Dw s (if x.2.1 then Ds q else q) x.1∉ks) :
  xi prog 177 #[.map (lp b),rl tz s,J4 kind q d n v] w fun e w'=>e=pd (.slice od 0 0)/\ug w.heap.size w w':=by
 obtain⟨o,hrow,Ee⟩:=hT.ex
 refine KI w b s kind hk q d n v g o T h3 hrow h4 hg Ee (fun W=>Mr W q Ab hsl) (fun W hW x hx=>?_)
 have Di:(if x.2.1 then Ds q else q).size<=1000:=by
  split
  ·exact Ru hq
  ·exact hq
 obtain⟨l,hl⟩:=Xk hs (hof x hx) Di
 refine Bm.look_none s7 (h.keep (hW.block b (Bm.lt h))) Q6 underlying81 (GJ W) hl (fun p hp e=>?_)
 obtain⟨k,hk',rfl⟩:=bE.1 hp
 exact hno x hx (by rw [←e];exact hk')
theorem KH{of0 Il:Int}{T0:List Tl}(hTT:T=(of0,vp,Il) :: T0)(hks:ks = [Dw s q of0])(h4b:b≠4)(hgb:b≠g) :
  xi prog 177 #[.map (lp b),rl tz s,J4 kind q d n v] w fun e w'=>(∃ov,e=pd ov/\w'.ownsRow w.heap.size 256 2 ov 1 [rl tz Il,pt q])/\Ar w w' (· = b)/\Lo w' b []:=by
 have Cg:=Bm.lt h
 obtain⟨l,hl⟩:=Xk hs (hof _ (by rw [hTT];exact eI)) hq
 subst hks
 obtain⟨o,hrow,Ee⟩:=hT.ex
 refine QI w b s kind hk q d n v g o T0 of0 Il T hTT h3 h4b hgb Cg (fun W=>Lo W b []) hrow h4 hg Ee (fun W=>Mr W q Ab hsl) (fun W hW=>?_) (fun W hW=>?_) (fun W W' hQ hb=>Lo.keep hQ hb) (fun W hQ x hx=>?_)
 ·exact Bm.look_some s7 (h.keep (hW.block b Cg)) Q6 underlying81 hl (v:=.agg #[]) Ae
 ·obtain⟨W',hr,hm',hg'⟩:=Bm.drop_some (ty:=0) (h.keep (hW.block b Cg)) Q6 underlying81 hl (A:=[]) (C:=[]) (v:=lx #[]) rfl
  exact⟨W',hr,hg',hm'⟩
 ·have Di:(if x.2.1 then Ds q else q).size<=1000:=by
   split
   ·exact Ru hq
   ·exact hq
  obtain⟨l',hl'⟩:=Xk hs (hof x (by rw [hTT];exact eW _ hx)) Di
  exact Bm.look_none s7 hQ Q6 underlying81 (GJ W) hl' (fun p hp=>by cases hp)
end
end Go.Proofs.YtjoblhlkfmeckaaGreatDoor
