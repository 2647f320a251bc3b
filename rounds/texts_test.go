package rounds_test

import (
	"crypto/sha256"
	"encoding/hex"
	"fmt"
	"math/big"
	"testing"

	"marlinspike/api"
	"marlinspike/fr"
	"marlinspike/pad"
	"marlinspike/rounds"
)

// What follows was worked out apart from the program, by the document's words: by
// numbers of any length, from X on.

// digestOf is how many numbers there are, and SHA-256's of them, of 32 bytes each, as they
// are too many to be told.
func digestOf(l []*big.Int) string {
	var b []byte
	for _, k := range l {
		b = append(b, k.FillBytes(make([]byte, 32))...)
	}
	s := sha256.Sum256(b)
	return fmt.Sprint(len(l), " ", hex.EncodeToString(s[:]))
}

// worked is a sketch; of its shape N, X and M; the first round's Z, I, W, A, B, S, the
// second one's T, G1, H1, the third one's G2, H2.
type worked struct {
	sketch
	n, x, m            int
	first, next, third []string
}

// powersOf are so many powers of a number, from one exponent on, step by step.
func powersOf(base int64, count, from, step int) (l []*big.Int) {
	for j := range count {
		l = append(l, raised(whole(base), from+j*step))
	}
	return l
}

// counted are so many entries by a matrix's number: of each j the place, and a power of
// 2, 3, 5, by matrix, by 37 (j + 1).
func (x worked) counted(at func(i, j, count int) (row, col int)) (l [3][]api.Entry) {
	for i, count := range []int{x.a, x.b, x.c} {
		for j := range count {
			row, col := at(i, j, count)
			l[i] = append(l[i], entry(row, col, raised(whole([]int64{2, 3, 5}[i]), 37*(j+1))))
		}
	}
	return l
}

// shape is that of a circuit of its sketch, whose j-th entry of n is at the place
// j Rows Cols / n, if places are counted row by row, and whose C is mended so that the
// powers of 11 by 13 j satisfy it, which are told too. Of a sketch without rows it is one
// by hand, whose j-th entry of the i-th matrix is in the row 5 j + i, by N, at the place
// 11 j + 3 i, by N, and which these powers need not satisfy.
func (x worked) shape(t *testing.T) (pad.Shape, []*big.Int) {
	t.Helper()
	if x.rows == 0 {
		return pad.Shape{N: x.n, X: x.x, M: x.m, Rows: x.counted(func(i, j, _ int) (int, int) {
			return (5*j + i) % x.n, (11*j + 3*i) % x.n
		})}, powersOf(11, x.n, 0, 13)
	}
	l := x.counted(func(_, j, count int) (int, int) {
		place := j * x.rows * x.cols / count
		return place / x.cols, place % x.cols
	})
	z := powersOf(11, x.cols, 0, 13)
	s := padded(t, mended(api.Circuit{Rows: uint32(x.rows), Cols: uint32(x.cols), Inputs: uint32(x.inputs), A: l[0], B: l[1], C: l[2]}, z))
	return s, spread(t, s, z)
}

// places are 7^61, 11^83, and 13^90, 17^70, 19^50, of which the last one is 0 in the second
// round of a shape by hand, so that it is not told ErrCheck.
func (x worked) places() (a, b *big.Int, second, third [3]*big.Int) {
	third = [3]*big.Int{raised(whole(13), 90), raised(whole(17), 70), raised(whole(19), 50)}
	second = third
	if x.rows == 0 {
		second[2] = whole(0)
	}
	return raised(whole(7), 61), raised(whole(11), 83), second, third
}

// wantDigests fails if lists are not what was worked out.
func wantDigests(t *testing.T, what string, wanted []string, l ...[]*big.Int) {
	t.Helper()
	for i, p := range l {
		if got := digestOf(p); got != wanted[i] {
			t.Errorf("%s, %d: %s, not %s", what, i, got, wanted[i])
		}
	}
}

// What the tests hold the program against is held against what was worked out apart.
func TestModel(t *testing.T) {
	for i, x := range allWorked() {
		s, z := x.shape(t)
		if s.N != x.n || s.X != x.x || s.M != x.m {
			t.Errorf("%d: %d, %d, %d", i, s.N, s.X, s.M)
		}
		if s.M > 64 || s.N > 64 { // of great ones it takes long
			continue
		}
		a, b, second, third := x.places()
		p, model := firstOf(s, z, powersOf(23, 3+2*s.N, 1, 5)), indexedOf(s)
		wantDigests(t, fmt.Sprint(i, ", first"), x.first, p.z, p.i, p.w, p.a, p.b, p.s)
		q, is := model.secondOf(p, a, second)
		if !is {
			t.Errorf("%d: the rest has a scalar of 1", i)
		}
		wantDigests(t, fmt.Sprint(i, ", second"), x.next, q.t, q.g, q.h)
		o := model.thirdOf(a, third, b)
		wantDigests(t, fmt.Sprint(i, ", third"), x.third, o.g, o.h)
	}
}

func TestToldApart(t *testing.T) {
	for i, x := range allWorked() {
		s, z := x.shape(t)
		a, b, second, third := x.places()
		p := oneOf(t, s, z, powersOf(23, rounds.Draws(s), 1, 5))
		wantLists(t, fmt.Sprint(i, ", first"), x.first, listsOf1(&p))
		o := indexOf(t, s)
		q := twoOf(t, o, p, a, second)
		wantLists(t, fmt.Sprint(i, ", second"), x.next, listsOf2(&q))
		l := threeOf(t, o, a, third, b)
		wantLists(t, fmt.Sprint(i, ", third"), x.third, listsOf3(&l))
	}
}

// wantLists is wantDigests of scalars.
func wantLists(t *testing.T, what string, wanted []string, lists []*[]fr.El) {
	t.Helper()
	for i, l := range lists {
		wantDigests(t, fmt.Sprint(what, i), wanted[i:], backs(*l))
	}
}

func allWorked() []worked {
	return []worked{
		{
			sketch{1, 1, 1, 1, 1, 1}, 2, 1, 2,
			[]string{"3 38880fbc091049e028fe6c57fdaf1653286f38959c55211c74fcc2ab8bbeae8d", "1 ec4916dd28fc4c10d78e287ca5d9cc51ee1ae73cbfde08c6b37324cbfaac8bc5", "2 223bff196e5c531510aca55d860d8c8feb7380aac7ac572021511259453f6e79", "3 521dc9d72f6be97f265e991995133e86fc81227a9e13be8838316d979a9517bd", "3 637d734b2b13171dc1173103d15c55cf4c3b2b54346fa3f466eb5174a39917e7", "5 9192869bc32269b051b79559cbb0958aea4282d89591a6af4a53d3957bd8f9de"},
			[]string{"2 8da8e68d885a6cf3f9ffec23484f2cee9d9600677bcacda19f50ecdcf258ce7d", "1 c113f80d084ba38bc85ebcaebbecae1583896dc06ff2177b0711a878971ef9b3", "4 1186fc4b59298a40ab7407b8bdc43885766849c6c13c70ba6c00468c9466940f"},
			[]string{"1 a42e076791bd498e1dbdc9344b11ec9c1ba8acf77c20c698d8b0699a85b489cc", "0 e3b0c44298fc1c149afbf4c8996fb92427ae41e4649b934ca495991b7852b855"},
		},
		{
			sketch{1, 3, 2, 2, 3, 1}, 4, 2, 4,
			[]string{"5 7f6fd187d1defa0955fc8812cfa75a1cc99674157efaadb4c4e9c7637c6cc2be", "2 c0c0feaee0bc0256e99b2c701035d746c2228dc7420c1eebbd50594f12306444", "3 9b37ad47ce24b09d4db41a0050bacd5c0c6cf67f0e08c66761bc6a65f72dc241", "5 f4642caf0eafca6fbe9c1779d602fd18a15285abf642e10e87d4c17e5bcd633f", "5 14715365fc6974fecd353f5625118663bff4e7b195b927dbc6de5607169dcf84", "9 e3cab130377ca069433c7764b635a0a91529a5ccdbbeac8029914d2bf8b9d59d"},
			[]string{"4 36156774311d4babe2ee158dccfcb8bf48959eb42880e0252cb9c430a1804771", "3 e84b0af79332a42da89f7156f5d9e685fcdde038a72f67b3568f461144fc612a", "8 897cc3e7ef4b4780b49b3160a3fc0a8d5fc138f8d0ddf03b6fdedacc9c129198"},
			[]string{"3 ab0409561634c0101893f5ec43f002eee5fa62af89f221ff5cf85b6e73e2ac2b", "6 082b1f05d9b939e496f2c31c670fbac841c7bd6cb34de0bf04f233d74a20da70"},
		},
		{
			sketch{4, 5, 2, 7, 9, 3}, 8, 2, 16,
			[]string{"9 56dd2ed69b503f601a1362f95a30c019a77c2e2e5ddece6dbf97e8d41bb32b63", "2 c0c0feaee0bc0256e99b2c701035d746c2228dc7420c1eebbd50594f12306444", "7 70153f9ce4e0bd95daaddb6267037394f6942e9ad21f551cfbd0f1c899ace60d", "9 fcacb38db7b1d6126ee31887bc4045e157c678d458095f51278577372ead95db", "9 186893fb4919bf13fa9a742fc4a48457327ffa061de3c1da8add21d35c8ba178", "17 909a57b1629bc4cc6d7b547f8cccefa58bb3e70c57fb7594ce5e282f64c56c80"},
			[]string{"8 c82b4cb7dc7196860dd890b66ec6f12c5af79afd0f39c99f179eb93620c3f723", "7 19003cc7bdfd0979583e2152d49096d33410ea84b9e96093d6b3e8dc4da553f2", "16 32ca20d641ac01d90cb28623d5b2c61516c8cce0444591cdf327d62eebf2d7bd"},
			[]string{"15 537608f7394bc9daacd4a28c83e20b9020f6d58e84a722958b283a36af75b6cb", "90 ebefed391a883b07729064267ca9baad6641565d323e2aca857295208ac7d813"},
		},
		{
			sketch{3, 8, 8, 0, 4, 24}, 16, 8, 32,
			[]string{"17 428d4738b0206704aa334ad38f3c3b45b8a562ccefbc06eb484448520ce22a3b", "8 c79ab5f5816d1c9fa43540beacfd67e4b7489977a81863669c5632f14df0029b", "9 77546fb31074b4fd8830a5d22495e7d9b70802b242055ab4f0aed32173b480b5", "17 ad7f8e56f343f4c5421644f5cfac29dc40eb30a382570aa5981a1b737e40a0ff", "17 02a078db556af2dfb7859ca2e7c7255f743ac51115078553419f898d35101007", "33 be571e51c560d6ff83eb0183670f1f199ecc4503085d946b16fdce425d175453"},
			[]string{"16 9c2573f07c1af1eba5807baf254a27bb114f0e1fdb052b801f14fbcd0542e268", "15 aebee087957830c57e66ed6de33d2c80ae722a3734182f3607d6eac1bddf3241", "32 2412a9eaf0c3744ef15b76d81365ede7076938ba8a44535d44b301b433085b0a"},
			[]string{"31 37fc20ad116996fb0e2de05646110781db028ffa4c8e929d6b38516afd11a00f", "124 08c936f959e0dd3f9d67fee7f3446a969b966ec2544bfe7d59212fb814347b7c"},
		},
		{
			sketch{5, 6, 3, 0, 0, 0}, 8, 4, 2,
			[]string{"9 79522212e2d057befe9d48997fa571815af9a965f3334085b8e8cc6f8b029b79", "4 55be63ecf176f8a0e2229ad6d036f8de49cd42ec27cf3712abb139b6c875f24a", "5 07a2ee140dc6c7dc298bbdcd78d72f71d9aaae2769fe6bcd9a38b8a839191391", "9 3c1d49b3fa83ebe1f157e9199f776f823405628046ccaf3dbae79e1af99fe1fe", "9 505ac5c324bdeb06f164afee66dbcba737af372f07970299913e81a6b9529709", "17 909a57b1629bc4cc6d7b547f8cccefa58bb3e70c57fb7594ce5e282f64c56c80"},
			[]string{"0 e3b0c44298fc1c149afbf4c8996fb92427ae41e4649b934ca495991b7852b855", "7 6fe9ce8a20a229ff2466a43ce4c41b2ae12c42df4de0d52d25f4900e0d99e3b3", "16 2ed20ab8154c2e46b8bfee286f0dacf3503163d592e6452c001b6d09f554513e"},
			[]string{"0 e3b0c44298fc1c149afbf4c8996fb92427ae41e4649b934ca495991b7852b855", "0 e3b0c44298fc1c149afbf4c8996fb92427ae41e4649b934ca495991b7852b855"},
		},
		{
			sketch{17, 11, 4, 60, 41, 33}, 32, 4, 64,
			[]string{"33 c69d382d86e00807ef85e23133c955bdded92320bb13618cf05b63a09b2a0b4c", "4 9768f62bbe9b904eb536e6b4c5138ac880ce03ac0a8a5afe933ea256b803b827", "29 56fc45651a5a74fc3c65ca4196e3d737103748b1c4c01d5bf7ea4490ceb16ca3", "33 016c8e76b5bed9699013226507eb6a60852f18195b9ec953e36578e7851c03f0", "33 18ecd00563868487de96567aab0532e86e962ca9e65e2bf9ac649400544f6977", "65 a1a0ab9914b76f3c11df48ff98f9bcf99ea5b9f4582f7913c033961e24c5b8dd"},
			[]string{"32 88ed16823d2b4c22907de1fb5a1b701c6c7f699f65d3867ba172d95fd197665c", "31 bad2ab7bccfee814dd420cef3d1f0066904238d39f57fa0626e7a39872d9c38b", "64 35773eb105ec3c59170665036cb45b9e5e9d3677b3b6fb7c2ef63fd4e8943c18"},
			[]string{"63 df5f30eab8ce57925cc406f553392db5b4aeb7578aca943779b48c11f6ffe072", "378 1a2ff1d4da2e8c4691aa1f0a81781e6a0b7fa5cdde79b3f7cc052193ae71caf8"},
		},
		{
			sketch{9, 40, 33, 100, 0, 100}, 128, 64, 128,
			[]string{"129 898fd1d005b4688d838df29609a61ab2a670c567fe3960c0c7549c55f68956e0", "64 5b210e00c7781b0514559eb03d312446d6c2d23efc7955b69b23621554a93035", "65 52b3610bd047b5c504b1c913d45523b66b72c4c8b22226363edbc60b0ae81a3d", "129 7f4bb6d99e92c3e0eba9b7315da7d669980543d4eee2532ae1d7cb7ca4e66b7d", "129 1fbf3f2532a8b59b2b2a32a6775b7a5ae40a5a004baa9f6f555f54bcee3682fe", "257 aed73b9fa31ff6be69add1d4b91d94800e7ea8a4ba39625d60f1c7d37ce5991b"},
			[]string{"128 9c2aac66487259768f4d0878de03b85fd8f028b666be55077db38394345a2510", "127 54e28d5745360a0065dc913efaf7554e136e7950f88712c56c378f8c803944b3", "256 1edc82ee9fdb199b06368201698d0a132c99f8ca1b25c458aae50329a177dad8"},
			[]string{"127 1d918163af517700f6aacd7e6b8b17a47113bfa60abf26a60bc089dafe888d94", "508 af59cfa5dcd1eaf53885dd95821d2ad107ab7eb8f7644e59348c92a79cb0cf2a"},
		},
		{
			sketch{40, 30, 1, 90, 200, 50}, 64, 1, 256,
			[]string{"65 8f5e467e9f446093c54398866e66fb69ff11380130b2ac9270471b914832bd8a", "1 ec4916dd28fc4c10d78e287ca5d9cc51ee1ae73cbfde08c6b37324cbfaac8bc5", "64 7b63fee3ec9d958abfc437dc047c732f120c89a6f3b2f161afc66cb7c8f93200", "65 d25b7b38dc647eae9cc9bb4d0b8b452c387d63a9df8efc85b42bbf06763c14dd", "65 6aec84713344e43ddb9d78b36bab8b16e7d98b4e4b74046c62aab14ce4111dd6", "129 63a04bc2818d484d42a905621cf3c93e72c630c4bc4e3f54ab74f265bcefafbe"},
			[]string{"64 7c444217443f38533544b0a316d10e2fa0768de4ae07e49393904f1a31191747", "63 cc2d97eb39be825001bef578616d2e115eb3db10c24120aa2de3ff6315dfb0db", "128 5946f9f3287984423fae09fb0acc005ba6823836d203fc93e55057e996657146"},
			[]string{"255 25479dd6aa942d37073732a87911aa6ef24455268b85a57e944acbea5fb60208", "1530 3b377d6ff39956b4d04392ceb303653044d9a4499d72582c6a9a5e0d509e4503"},
		},
		{
			sketch{0, 0, 0, 1, 0, 1}, 1, 1, 1,
			[]string{"2 6d6104a5fa6a4b7787418f890987d19d4d746fda1a16abdb5eac4776f6fae85b", "1 ec4916dd28fc4c10d78e287ca5d9cc51ee1ae73cbfde08c6b37324cbfaac8bc5", "1 4303ef0796bae63d9f52f7bf61ae2d37b57889452f2ad07bba769d90d354fe37", "2 103d837f978923fd14a90332869032bcdf209098fb6514b31082ae810f6e5601", "2 7ea32f4405c42c5d6ebe220b7d4472d7847f5c0b5199433cfff416c5c3efdb1d", "3 a1753a45ba6b597d93bc6bebef73de0c8eb8056c41ffc10993206571a18fd679"},
			[]string{"1 b1158842463342e52acfb2d7092da2192c53d8d30017bc086304b9c19ed9e9d4", "0 e3b0c44298fc1c149afbf4c8996fb92427ae41e4649b934ca495991b7852b855", "2 ec657f6e5e9ddbc70433cd5e6b86d16acce19d5e8dd497ec84392bae7e45a7f5"},
			[]string{"0 e3b0c44298fc1c149afbf4c8996fb92427ae41e4649b934ca495991b7852b855", "0 e3b0c44298fc1c149afbf4c8996fb92427ae41e4649b934ca495991b7852b855"},
		},
		{
			sketch{0, 0, 0, 4, 3, 0}, 1, 1, 4,
			[]string{"2 6d6104a5fa6a4b7787418f890987d19d4d746fda1a16abdb5eac4776f6fae85b", "1 ec4916dd28fc4c10d78e287ca5d9cc51ee1ae73cbfde08c6b37324cbfaac8bc5", "1 4303ef0796bae63d9f52f7bf61ae2d37b57889452f2ad07bba769d90d354fe37", "2 a54acc7efcfc18dbfc42d876447c5a51c989c2e1358b2ba2e47db968211ebf44", "2 e888a950f00af0c934740d7f9e8827fcc9df207efe5e8dfcc815ef1a7b5756da", "3 a1753a45ba6b597d93bc6bebef73de0c8eb8056c41ffc10993206571a18fd679"},
			[]string{"1 cdb411368dd6582ac223f288e9a9fbbe7e20fb548ed69bee989a27dca0b6d585", "0 e3b0c44298fc1c149afbf4c8996fb92427ae41e4649b934ca495991b7852b855", "2 c560e77ea76ba4b4edb0bf8a58a91f266a3a099f1d5f7b8f3322620eca23b2fb"},
			[]string{"3 73485d558d8dd02d6beb9982e8576b1abb1ae08c196eecc17ac7e3f8d538ed8a", "0 e3b0c44298fc1c149afbf4c8996fb92427ae41e4649b934ca495991b7852b855"},
		},
		{
			sketch{0, 0, 0, 0, 1, 1}, 2, 2, 1,
			[]string{"3 fc121d8271b890322eb0396e666ea495e1b98163d1a800fb03b020f66f14dcea", "2 c0c0feaee0bc0256e99b2c701035d746c2228dc7420c1eebbd50594f12306444", "1 4303ef0796bae63d9f52f7bf61ae2d37b57889452f2ad07bba769d90d354fe37", "3 751c51adea7a791dd56de5d9e10d9aed3d259f48051b79030c4db4d8d70734ea", "3 adb1419f684620cd52990e3400cf2335666126620403fef5e07bf8698cb185cb", "5 9192869bc32269b051b79559cbb0958aea4282d89591a6af4a53d3957bd8f9de"},
			[]string{"2 94bfee4215a3d08367b1336dbb1defa5c3ed8e1847e8482e68e95167fb1b44cf", "1 c113f80d084ba38bc85ebcaebbecae1583896dc06ff2177b0711a878971ef9b3", "3 df6534cab3b709c84f32d583b57a0300fe77f3b9816dede1a88098ccf591533d"},
			[]string{"0 e3b0c44298fc1c149afbf4c8996fb92427ae41e4649b934ca495991b7852b855", "0 e3b0c44298fc1c149afbf4c8996fb92427ae41e4649b934ca495991b7852b855"},
		},
		{
			sketch{0, 0, 0, 2, 1, 2}, 4, 1, 2,
			[]string{"5 96e076f44b7a9829d86a47e7827c8113c26664efdc6975ca3209e5187307da29", "1 ec4916dd28fc4c10d78e287ca5d9cc51ee1ae73cbfde08c6b37324cbfaac8bc5", "4 3704446aa8aff1fb4154a04931fbdee999c199bd697b78c10ace09b90e9aad41", "5 62ece2795f179c94eb8f3208b8cd2467f53a8ee7987f51d0b3bacd6f010aac4e", "5 2af1441b7e72508ac2af2e0a2a21efbff8df74b7d07b1eb449a7626321af5e37", "9 e3cab130377ca069433c7764b635a0a91529a5ccdbbeac8029914d2bf8b9d59d"},
			[]string{"4 3c2d1fac564e71b97f773bbc6d40c4a87d34edc22331e9d43a034619aabbcc95", "3 f585dbd30f1194206a05a17c364b7f034c4d36660d4197d7e2bad00610027405", "5 9fe9df80092c1793f264ca5402b87bfb28f90adc428695a91af790631632af28"},
			[]string{"1 3208d047944d758022fa215c1ecd92cd37f73cb11320d47c5b74785d8cd6f378", "6 d968e6745e713289da0f082bcef72b60a7f5adb14e51a0f3986b5dec338eeb9f"},
		},
		{
			sketch{0, 0, 0, 8, 8, 8}, 8, 8, 8,
			[]string{"9 6936066f957cbeb8f1c154e3187b9a34acb61c5af26b65a0f65d4cc3f67db37c", "8 c79ab5f5816d1c9fa43540beacfd67e4b7489977a81863669c5632f14df0029b", "1 4303ef0796bae63d9f52f7bf61ae2d37b57889452f2ad07bba769d90d354fe37", "9 24f15561c9fe86c02d7917edbbd01c45ebd64ad02a20c533e1dafdd416809809", "9 dcf2fdf4252c1c4e165178c64b98cdc73396e2d25eb8511080351d1939225c39", "17 909a57b1629bc4cc6d7b547f8cccefa58bb3e70c57fb7594ce5e282f64c56c80"},
			[]string{"8 c26beefed838d8e8bbd7d503a13f9a7dc6db9b8e443fea1c3327865556da19cf", "7 f7a9887c35334c996e968279d95a0547ee5ff9c2706bc7312aec4a15a2f0982b", "9 a36399d3cc93326aff6ad85e39601f58b3c46525d8c0c9be4f2dd8573be9abdc"},
			[]string{"7 3d6c200dc9fb3029f1da8822cdedc6687236990f2105647c05bf36c476c5e0e9", "24 be064b07f95224d31c231c725579b24eefeb3602be51c770d99f041fbe913ac5"},
		},
		{
			sketch{0, 0, 0, 31, 32, 1}, 64, 16, 32,
			[]string{"65 6b074e5c3002704ff1c353429a2c523c5e12429d338c9963a6810ce47bb67182", "16 c4b76429485dde4de34cf679ab354db70515a85dd98668475ba096ce079152de", "49 7039a899f5d208f9ffddb6bd727a178c4fa7b3b4d2c3761e7b2eb04792d6b3c0", "65 1314762e9bec1a273a12a491b13693a1b03ac168f65687da3f58c8ff678e844c", "65 a7db635ba3e3139e86d5e7de39c6550fab116b60eb7b7dd81964ac9e179ec36b", "129 63a04bc2818d484d42a905621cf3c93e72c630c4bc4e3f54ab74f265bcefafbe"},
			[]string{"64 2a26a46ec9d763501f00e2b6f53ec8982955fcc8a2200537c493104689e1054d", "63 1b08fbea787322bceb99029d844d6a0bc6f867063f15238a605cdbb9a1570195", "65 acce09377e6b08670512a03b83c4e1cd433e0be29959d0e78d978ff055f8e625"},
			[]string{"31 91bdcb3ea075f76405e9e3d9d9df7ccf34213996575e4238574e03ab47d16e99", "186 3115e8ea9a31581f060e2e89751840b8076557f35cac40f3fe2acb5d9d7f06a8"},
		},
		{
			sketch{0, 0, 0, 256, 255, 200}, 16, 4, 256,
			[]string{"17 9940353873cf04944f724c9d74e6533e8e8c9cb8a6f0c2e4e396d304f7ca9b5a", "4 2f5be7a02e39ead58a52f4e535d4bf1fade0b296a131f4149dc290cf8b609b50", "13 d04d4019d1b8b21f15c8c89dcb0e67b52dc3e13e5f7019e784e839bab34ea80a", "17 163349ae13795d1bd98faedcccec1e56ca4c142aa19571e021a4663b099400e1", "17 64d54eeacc1dc40c403e24afc60c8bf271332241642a1e50539ff91708217955", "33 be571e51c560d6ff83eb0183670f1f199ecc4503085d946b16fdce425d175453"},
			[]string{"16 0c6372ce3cf3331d5887a66ce71849976334bb51dfef53263fd4ce1b17e972a2", "15 1cf883e9a409eeced237a21a510cee65fc95917a34ac7b9929a9a89e11c5f7ab", "17 931efc6160fff6f28bea3d8b9137c93e4562993a060a322e073d270454df3d5e"},
			[]string{"255 97ef954b5ff5860902c750e6a8261e172e13a1d27d7d764c5c06708869eb0d1b", "1276 222fa777d85421915e4c3ed7bc5d0dc09dc842ad25f891d7328743fdf2270166"},
		},
		{
			sketch{0, 0, 0, 2, 2, 2}, 256, 2, 2,
			[]string{"257 99733dec46adb73cb7cec6b1069040f064d56e5647d74443d2bb9a5d4ccc37ac", "2 9b6f9e0644aad79bbb37e3cf70792683f724ad0f215bf5ac063c565eaec8d034", "255 ee1df7c636b6e48e515e318e758a18ae26107dd2b2eb0b6f832ebedf31c26995", "257 9fa4aba0fc319574098c591abbc44814b214c7b45964dda273b66c55b7caec93", "257 f1920f269600f11f09328e60eb164130a95410066c90b5175914785433c9fcde", "513 d1825a639b3adb1e0952e7e0f767dc034b601b6fbb11ced843bf72339eb86bad"},
			[]string{"256 634f8b6f563c2b852a7dc8367c2510f7c8df3d64254e7f3726a711e05ad6c4f6", "255 a6355243a1a76c8751ead1f60e210b4cb07891a18a432f5aa7cd69a70a5f1813", "257 9dfaec1982d7aa55e34900c328863c7faac7d3136b740503069fca954a478abb"},
			[]string{"1 836cf48ecb483c26fff87e5dbe5850cca446c00ae977ecd47de1842fce0a7c10", "6 1edc08f7dd33c4a58d6c4be65b2be1f97d6ccca3b33efdd2949480f3e3072023"},
		},
	}
}
